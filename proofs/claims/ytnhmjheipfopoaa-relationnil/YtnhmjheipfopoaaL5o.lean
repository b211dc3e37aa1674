/- Functions that tell nothing; none. -/
import Derived.Test.YtnhmjheipfopoaaL5n
namespace Go.Proofs.Ytnhmjheipfopoaa.L
open Go.RowKit Go.Maps Go.Shelf Go.Proofs.Ytnhmjheipfopoaa
attribute [local go_sem] Oper.semAt_some
section
variable {W : World} {p : Option Addr}

def enc2 (x : Nat) : Array Value := #[.int .i64 x, .int .i64 x]

set_option maxRecDepth 100000 in
set_option maxHeartbeats 2000000 in
theorem stretch_none (b1 b2 b3 : Nat) (V : World) (h1 : V.cell? ⟨b1, 0, none⟩ = some (.pointer p)) (x y : Int) (h2 : V.cell? ⟨b2, 0, none⟩ = some (.int .i64 x)) (h3 : V.cell? ⟨b3, 0, none⟩ = some (.int .i64 y)) (h : NoRel p V) :
    SeqL AnyT Try.prog 54 #[.pointer (some ⟨b1, 0, none⟩), .pointer (some ⟨b2, 0, none⟩), .pointer (some ⟨b3, 0, none⟩)] encPl (fun _ => False) ([] : List Nat) V := by
  intro l J Jx W hW hJ hJx hY h0
  have hb := bounds_none (h.stay hW) x y
  have q1 := hW.cell h1
  have q2 := hW.cell h2
  have q3 := hW.cell h3
  clear h h1 h2 h3 hY hJx hJ
  refine (callsIn_wide (n := 1)).1 (callsIn_of_wp Try.func54 rfl trivial ?_ rfl)
  simp only [Try.ntmps54, List.size_toArray, List.length_cons, List.length_nil, Nat.reduceAdd, Nat.reduceSub, Array.replicate_succ, Array.replicate_zero, List.push_toArray, List.append_toArray, List.nil_append, List.cons_append]
  gi_wp2_with (refine ⟨trivial, ?_⟩; gi_at_call 46; refine CallsIn.mono (callsIn_wide.2 hb) ?_; rintro e w' ⟨rfl, rfl⟩)
  have HI : Hid (J 0 w') := h0
  clear hb h0 q1 q2 q3
  gi_loopw [7] (fun ui wr => ui = .int .i64 0 ∧ wr = w') (fun _ _ => 0)
  case atStart => exact ⟨rfl, rfl⟩
  case round =>
    obtain ⟨rfl, rfl⟩ := hrel
    gi_wp2
    go_end0
    exact ⟨⟨_, rfl⟩, .inl HI.out⟩

theorem match1_none (V : World) : SeqL AnyT Try.prog 29 #[] enc2 (fun _ => False) ([] : List Nat) V := by
  intro l J Jx W hW hJ hJx hY h0
  refine (callsIn_wide (n := 1)).1 (callsIn_of_wp Try.func29 rfl trivial ?_ rfl)
  simp only [Try.ntmps29, List.size_toArray, List.length_cons, List.length_nil, Nat.reduceAdd, Nat.reduceSub, Array.replicate_succ, Array.replicate_zero, List.push_toArray, List.append_toArray, List.nil_append, List.cons_append]
  gi_wp2
  go_end0
  exact ⟨⟨_, rfl⟩, .inl h0⟩

theorem allR_any (W : World) (p : Option Addr) (x y : Int) : Calls Try.prog 12 #[.pointer p, .int .i64 x, .int .i64 y] W fun e w' => ∃ V, e = .returned (.func (.func 35) #[] #[.pointer (some ⟨W.heap.size, 0, none⟩), .pointer (some ⟨W.heap.size + 1, 0, none⟩), .pointer (some ⟨W.heap.size + 2, 0, none⟩)]) ∧ w' = V ∧ Stay W V ∧ V.heap.size = W.heap.size + 3 ∧
    V.cell? ⟨W.heap.size, 0, none⟩ = some (.pointer p) ∧ V.cell? ⟨W.heap.size + 1, 0, none⟩ = some (.int .i64 x) ∧ V.cell? ⟨W.heap.size + 2, 0, none⟩ = some (.int .i64 y) := by
  go_enter Try.func12, Try.ntmps12
  go_wp2
  go_ret
  have h0 : (((W.alloc (.cells #[.pointer p] 24)).alloc (.cells #[.int .i64 x] 3)).alloc (.cells #[.int .i64 y] 3)).heap[W.heap.size]? = some (.cells #[.pointer p] 24 (0, 0)) := (Below.heap_alloc _ _ _ (by simp; omega)).trans ((Below.heap_alloc _ _ _ (by simp)).trans (heap_new _ _))
  have h1 : (((W.alloc (.cells #[.pointer p] 24)).alloc (.cells #[.int .i64 x] 3)).alloc (.cells #[.int .i64 y] 3)).heap[W.heap.size + 1]? = some (.cells #[.int .i64 x] 3 (0, 0)) := by
    refine (Below.heap_alloc _ _ _ (by simp)).trans ?_
    have := heap_new (W.alloc (.cells #[.pointer p] 24)) (.cells #[.int .i64 x] 3)
    rwa [World.size_alloc] at this
  have h2 : (((W.alloc (.cells #[.pointer p] 24)).alloc (.cells #[.int .i64 x] 3)).alloc (.cells #[.int .i64 y] 3)).heap[W.heap.size + 2]? = some (.cells #[.int .i64 y] 3 (0, 0)) := by
    have := heap_new ((W.alloc (.cells #[.pointer p] 24)).alloc (.cells #[.int .i64 x] 3)) (.cells #[.int .i64 y] 3)
    rwa [World.size_alloc, World.size_alloc] at this
  exact ⟨_, rfl, rfl, ((Stay.new _ _).alloc _).alloc _, by simp, cell_of h0 rfl, cell_of h1 rfl, cell_of h2 rfl⟩

set_option maxRecDepth 100000 in
set_option maxHeartbeats 1000000 in
theorem all1_none (b1 b2 b3 : Nat) (V0 : World) (h1 : V0.cell? ⟨b1, 0, none⟩ = some (.pointer p)) (x y : Int) (h2 : V0.cell? ⟨b2, 0, none⟩ = some (.int .i64 x)) (h3 : V0.cell? ⟨b3, 0, none⟩ = some (.int .i64 y)) (h : NoRel p V0) :
    SeqL AnyT Try.prog 35 #[.pointer (some ⟨b1, 0, none⟩), .pointer (some ⟨b2, 0, none⟩), .pointer (some ⟨b3, 0, none⟩)] enc2 (fun _ => False) ([] : List Nat) V0 := by
  intro l J Jx W hW hJ hJx hY h0
  have q1 := (hW.trans (Stay.new W (.cells #[.func (.yield l) #[] #[]] 67))).cell h1
  have q2 := (hW.trans (Stay.new W (.cells #[.func (.yield l) #[] #[]] 67))).cell h2
  have q3 := (hW.trans (Stay.new W (.cells #[.func (.yield l) #[] #[]] 67))).cell h3
  have hst := stretch_any (W.alloc (.cells #[.func (.yield l) #[] #[]] 67)) p x y
  have HN : Hid (NoRel p W) := h.stay hW
  clear h h1 h2 h3 hY hJx hW
  refine (callsIn_wide (n := 8)).1 (callsIn_of_wp_marks Try.func35 rfl trivial ?_ rfl)
  simp only [Try.ntmps35, List.size_toArray, List.length_cons, List.length_nil, Nat.reduceAdd, Nat.reduceSub, Array.replicate_succ, Array.replicate_zero, List.push_toArray, List.append_toArray, List.nil_append, List.cons_append]
  gi_wp2_with (refine ⟨trivial, ?_⟩; gi_at_call 36; refine CallsIn.mono (callsIn_wide.2 hst) ?_; rintro e w2 ⟨V, rfl, rfl, sV, zV, -, p1, p2, p3⟩)
  have stV : Stay W w2 := (Stay.new _ _).trans sV
  rw [World.size_alloc] at p1 p2 p3 zV
  have sW : w2.heap.size = W.heap.size + 1 + 3 := zV
  have hJV : J 0 w2 := hJ _ _ _ h0 (Bel.of_stay stV (Nat.le_refl _))
  have hq := stretch_none _ _ _ w2 p1 x y p2 p3 (HN.out.stay stV)
  clear hst h0 q1 q2 q3 p1 p2 p3 sV zV
  refine' range_list (α := Nat) (T := AnyT) (n := 8) (by decide) (gf := 54) (lb := _) rfl (enters_of Try.func54 (by kernel_rfl) rfl) hq (fun i hi => hi.elim) (fun _ => rfl)
    (fun _ A => J 0 A ∧ w2.heap.size ≤ A.heap.size) (fun _ _ _ => False) (fun k A A' hA hb => ?hI) (fun c k A A' hA hb => hA.elim) ⟨hJV, Nat.le_refl _⟩ (fun _ W => W) (fun _ W => Stay.refl W) _ ?assign ?body ?done ?stop
  case hI => exact ⟨hJ _ _ _ hA.1 (hb.mono (by omega)), Nat.le_trans hA.2 hb.size⟩
  case assign =>
    intro l' y W' K hK
    dsimp only [encPl]
    gi_wp2
    exact hK
  case body =>
    intro l' k hk
    exact absurd hk (Nat.not_lt_zero _)
  case stop =>
    intro c k A hk
    exact absurd hk (Nat.not_lt_zero _)
  case done =>
    rintro A ⟨hJA, -⟩ hdd
    have HJ : Hid (J 0 A) := hJA
    clear hJA hJV hq
    gi_wp2
    exact leaves_marks (T := AnyT) ((Marks.nil W.heap.size w2.heap.size A).cons (T := w2.heap.size + 1) w2.heap.size (Nat.le_refl _) (by omega) (by omega) hdd) fun w' hw' => ⟨_, results_none rfl _ _ _, ⟨_, rfl⟩, .inl (hJ _ _ _ HJ.out hw')⟩

theorem setCell_box (A : World) (b : Nat) (t : TypeId) (v v' : Value) (h : A.heap[b]? = some (.cells #[v] t (0, 0))) : (A.setCell ⟨b, 0, none⟩ v').heap[b]? = some (.cells #[v'] t (0, 0)) := by
  rw [heap_setCell_same _ _ _ _ _ _ h]; simp

set_option maxRecDepth 100000 in
set_option maxHeartbeats 1000000 in
/-- none, of a function that tells nothing. -/
theorem none_any (gf : Nat) (lb : Array Value) (w : World) (eg : ∀ args w, (callFunc gf args).run Try.prog w = .ok (.enter gf args) w) (hseq : SeqL AnyT Try.prog gf lb enc2 (fun _ => False) ([] : List Nat) w) :
    Calls Try.prog 49 #[.func (.func gf) #[] lb] w fun e w' => e = .returned (.bool true) ∧ Stay w w' := by
  have hne : (binOp .eql 32 (.func (.func gf) #[] lb) .nilFunc).run Try.prog (w.alloc (.cells #[.bool false] 4)) = .ok (.bool false) (w.alloc (.cells #[.bool false] 4)) := by kernel_rfl
  have stV : Stay w (w.alloc (.cells #[.bool false] 4)) := Stay.new _ _
  have hq := hseq.stay stV
  have hbx : (w.alloc (.cells #[.bool false] 4)).heap[w.heap.size]? = some (.cells #[.bool false] 4 (0, 0)) := heap_new _ _
  have hsz : (w.alloc (.cells #[.bool false] 4)).heap.size = w.heap.size + 1 := World.size_alloc _ _
  clear hseq
  refine (callsIn_wide (n := 8)).1 (callsIn_of_wp_marks Try.func49 rfl trivial ?_ rfl)
  simp only [Try.ntmps49, List.size_toArray, List.length_cons, List.length_nil, Nat.reduceAdd, Nat.reduceSub, Array.replicate_succ, Array.replicate_zero, List.push_toArray, List.append_toArray, List.nil_append, List.cons_append]
  gi_wp2
  clear hne
  generalize w.alloc (.cells #[.bool false] 4) = V at stV hq hbx hsz ⊢
  refine' range_list (α := Nat) (T := AnyT) (n := 8) (by decide) (gf := gf) (lb := lb) rfl eg hq (fun i hi => hi.elim) (fun _ => rfl)
    (fun _ A => Stay w A ∧ A.heap[w.heap.size]? = some (.cells #[.bool false] 4 (0, 0)) ∧ V.heap.size ≤ A.heap.size) (fun _ _ _ => False) (fun k A A' hA hb => ?hI) (fun c k A A' hA hb => hA.elim) ⟨stV, hbx, Nat.le_refl _⟩ (fun _ W => W) (fun _ W => Stay.refl W) _ ?assign ?body ?done ?stop
  case hI => exact ⟨Below.trans hA.1 (Below.mono hb.1 (by omega)), (hb.2 _ ⟨_, _, _, hA.2.1, trivial⟩).trans hA.2.1, Nat.le_trans hA.2.2 hb.size⟩
  case assign =>
    intro l' y W' K hK
    dsimp only [enc2]
    gi_wp2
    exact hK
  case body =>
    intro l' k hk
    exact absurd hk (Nat.not_lt_zero _)
  case stop =>
    intro c k A hk
    exact absurd hk (Nat.not_lt_zero _)
  case done =>
    rintro A ⟨hA1, hA2, hA3⟩ hdd
    have cq : A.cell? ⟨w.heap.size, 0, none⟩ = some (.bool false) := by simp [World.cell?, hA2]
    have fq : A.frozen? ⟨w.heap.size, 0, none⟩ = false := by simp [World.frozen?, hA2]
    have HA : Hid (Stay w (A.setCell ⟨w.heap.size, 0, none⟩ (.bool true)) ∧ (A.setCell ⟨w.heap.size, 0, none⟩ (.bool true)).heap[w.heap.size]? = some (.cells #[.bool true] 4 (0, 0)) ∧ (A.setCell ⟨w.heap.size, 0, none⟩ (.bool true)).heap[V.heap.size]? = some (.deferred (some []))) :=
      ⟨Below.setCell hA1 (p := ⟨w.heap.size, 0, none⟩) (Nat.le_refl _) _, setCell_box _ _ _ _ _ hA2, (Below.heap_setCell _ _ _ _ (by show V.heap.size ≠ w.heap.size; omega)).trans hdd⟩
    clear hA1 hA2 hA3 hdd hq hbx stV
    gi_wp2
    refine leaves_marks (T := AnyT) ((Marks.nil w.heap.size V.heap.size _).cons (T := V.heap.size + 1) V.heap.size (Nat.le_refl _) (by omega) (by omega) HA.out.2.2) fun w' hw' => ⟨.bool true, ?_, rfl, Below.trans HA.out.1 hw'.1⟩
    have h3 : w'.cell? ⟨w.heap.size, 0, none⟩ = some (.bool true) := by
      have := (hw'.2 _ ⟨_, _, _, HA.out.2.1, trivial⟩).trans HA.out.2.1
      simp [World.cell?, this]
    simp [results, Try.results49, go_sem, h3]
end
end Go.Proofs.Ytnhmjheipfopoaa.L
