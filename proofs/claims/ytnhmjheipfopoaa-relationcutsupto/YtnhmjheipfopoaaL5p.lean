/- A relation that is not there. Functions that tell nothing; none. nothing: a relation that is not there, asked all that can be asked. -/
import Derived.Test.YtnhmjheipfopoaaL5e
import Derived.Test.YtnhmjheipfopoaaL4a
namespace Go.Proofs.Ytnhmjheipfopoaa.L
open Go.RowKit Go.Maps Go.Shelf Go.Proofs.Ytnhmjheipfopoaa

/-- Behind p there is no relation, and none is to come. -/
def NoRel (p : Option Addr) (W : World) : Prop := ∀ Y, Stay W Y → Calls Try.prog 40 #[.pointer p] Y fun e w' => e = .returned (.bool false) ∧ w' = Y
section
variable {W : World} {p : Option Addr}
theorem NoRel.here (h : NoRel p W) : Calls Try.prog 40 #[.pointer p] W fun e w' => e = .returned (.bool false) ∧ w' = W := h W (Stay.refl W)
theorem NoRel.stay {W' : World} (h : NoRel p W) (hs : Stay W W') : NoRel p W' := fun Y hY => h Y (hs.trans hY)
theorem norel_nil (W : World) : NoRel none W := fun Y _ => rmade_nil Y
theorem norel_zero {b : Nat} (h : W.cell? ⟨b, 3, none⟩ = some (.map none)) : NoRel (some ⟨b, 0, none⟩) W := fun _ hY => rmade_zero (hY.cell h)

set_option maxRecDepth 100000 in
theorem add_none (h : NoRel p W) (a : Option Addr) (n c : Nat) : Calls Try.prog 18 #[.pointer p, .slice a n c] W fun e w' => e = .returned (.tuple #[.int .i64 0, .bool false, .int .i64 1]) ∧ w' = W := by
  have hm := h.here
  clear h
  go_enter Try.func18, Try.ntmps18
  go_wp2_with (first
    | (go_at_call 40; refine hm.mono ?_; rintro e w9 ⟨rfl, hw⟩; have hw' := hw.symm; subst hw'; clear hm))
  go_ret3
  exact ⟨rfl, rfl⟩
set_option maxRecDepth 100000 in
theorem place_none (h : NoRel p W) (a : Option Addr) (n c : Nat) : Calls Try.prog 42 #[.pointer p, .slice a n c] W fun e w' => e = .returned (.tuple #[.int .i64 0, .bool false]) ∧ w' = W := by
  have hm := h.here
  clear h
  go_enter Try.func42, Try.ntmps42
  go_wp2_with (first
    | (go_at_call 40; refine hm.mono ?_; rintro e w9 ⟨rfl, hw⟩; have hw' := hw.symm; subst hw'; clear hm))
  go_ret2
  exact ⟨rfl, rfl⟩
set_option maxRecDepth 100000 in
theorem atR_none (h : NoRel p W) (x : Int) : Calls Try.prog 21 #[.pointer p, .int .i64 x] W fun e w' => e = .returned (.tuple #[.slice none 0 0, .bool false]) ∧ w' = W := by
  have hm := h.here
  clear h
  go_enter Try.func21, Try.ntmps21
  go_wp2_with (first
    | (go_at_call 40; refine hm.mono ?_; rintro e w9 ⟨rfl, hw⟩; have hw' := hw.symm; subst hw'; clear hm))
  go_ret2
  exact ⟨rfl, rfl⟩
set_option maxRecDepth 100000 in
theorem count_none (h : NoRel p W) (a : Option Addr) (n c : Nat) (a2 : Option Addr) (n2 c2 : Nat) (x y : Int) : Calls Try.prog 23 #[.pointer p, .slice a n c, .slice a2 n2 c2, .int .i64 x, .int .i64 y] W fun e w' => e = .returned (.tuple #[.int .i64 0, .int .i64 1]) ∧ w' = W := by
  have hm := h.here
  clear h
  go_enter Try.func23, Try.ntmps23
  go_wp2_with (first
    | (go_at_call 40; refine hm.mono ?_; rintro e w9 ⟨rfl, hw⟩; have hw' := hw.symm; subst hw'; clear hm))
  go_ret2
  exact ⟨rfl, rfl⟩
set_option maxRecDepth 100000 in
theorem distinct_none (h : NoRel p W) (a : Option Addr) (n c : Nat) : Calls Try.prog 20 #[.pointer p, .slice a n c] W fun e w' => e = .returned (.tuple #[.int .i64 0, .int .i64 1]) ∧ w' = W := by
  have hm := h.here
  clear h
  go_enter Try.func20, Try.ntmps20
  go_wp2_with (first
    | (go_at_call 40; refine hm.mono ?_; rintro e w9 ⟨rfl, hw⟩; have hw' := hw.symm; subst hw'; clear hm))
  go_ret2
  exact ⟨rfl, rfl⟩
set_option maxRecDepth 100000 in
theorem len_none (h : NoRel p W) : Calls Try.prog 19 #[.pointer p] W fun e w' => e = .returned (.int .i64 0) ∧ w' = W := by
  have hm := h.here
  clear h
  go_enter Try.func19, Try.ntmps19
  go_wp2_with (first
    | (go_at_call 40; refine hm.mono ?_; rintro e w9 ⟨rfl, hw⟩; have hw' := hw.symm; subst hw'; clear hm))
  go_ret
  exact ⟨rfl, rfl⟩
set_option maxRecDepth 100000 in
theorem arity_none (h : NoRel p W) : Calls Try.prog 47 #[.pointer p] W fun e w' => e = .returned (.int .i64 0) ∧ w' = W := by
  have hm := h.here
  clear h
  go_enter Try.func47, Try.ntmps47
  go_wp2_with (first
    | (go_at_call 40; refine hm.mono ?_; rintro e w9 ⟨rfl, hw⟩; have hw' := hw.symm; subst hw'; clear hm))
  go_ret
  exact ⟨rfl, rfl⟩
set_option maxRecDepth 100000 in
theorem copy_none (h : NoRel p W) : Calls Try.prog 48 #[.pointer p] W fun e w' => e = .returned (.pointer none) ∧ w' = W := by
  have hm := h.here
  clear h
  go_enter Try.func48, Try.ntmps48
  go_wp2_with (first
    | (go_at_call 40; refine hm.mono ?_; rintro e w9 ⟨rfl, hw⟩; have hw' := hw.symm; subst hw'; clear hm))
  go_ret
  exact ⟨rfl, rfl⟩
set_option maxRecDepth 100000 in
theorem bounds_none (h : NoRel p W) (x y : Int) : Calls Try.prog 46 #[.pointer p, .int .i64 x, .int .i64 y] W fun e w' => e = .returned (.tuple #[.int .i64 0, .int .i64 0]) ∧ w' = W := by
  have hm := h.here
  clear h
  go_enter Try.func46, Try.ntmps46
  go_wp2_with (first
    | (go_at_call 40; refine hm.mono ?_; rintro e w9 ⟨rfl, hw⟩; have hw' := hw.symm; subst hw'; clear hm))
  go_ret2
  exact ⟨rfl, rfl⟩

set_option maxRecDepth 100000 in
theorem ask_none (h : NoRel p W) (a : Option Addr) (n c : Nat) (a2 : Option Addr) (n2 c2 : Nat) : Calls Try.prog 28 #[.pointer p, .slice a n c, .slice a2 n2 c2] W fun e w' => e = .returned (.tuple #[.agg (rowV 0), .bool false]) ∧ Stay W w' := by
  have hz := zeroRow
  obtain ⟨Z, hZ⟩ : ∃ Z, Z = rowV 0 := ⟨_, rfl⟩
  rw [← hZ] at hz
  have H0 : Hid (Z = rowV 0) := hZ
  clear hZ
  have hs0 : Stay W (W.alloc (.cells Z 64)) := Stay.new W _
  have HB : Hid ((W.alloc (.cells Z 64)).heap[W.heap.size]? = some (.cells Z 64 (0, 0)) ∧ Stay W (W.alloc (.cells Z 64))) := ⟨heap_alloc_new _ _, hs0⟩
  have hm := (h.stay hs0).here
  clear h hs0
  go_enter Try.func28, Try.ntmps28
  go_wp2_with (first
    | (go_at_call 40; refine hm.mono ?_; rintro e w9 ⟨rfl, hw⟩; have hw' := hw.symm; subst hw'; clear hm)
    | (refine wpList_store_row rfl 64 (.tmp 6) (.tmp 18) rfl W.heap.size Z rfl rfl 64 Z HB.out.1 (by rw [H0.out]; exact sizeRow' _) rfl (by rw [H0.out]; exact rowV_one _) ?_))
  try simp only [Exit.inBlock, Exit.then]
  refine bodyPost_ret (results_cell_tmp rfl _ _ W.heap.size 64 Z (0, 0) (.array 16 4) rfl (setRow_heap _ _ _ _ _ _ HB.out.1) Try.underlying64 rfl (by rw [H0.out]; exact sizeRow' _)) rfl ?_
  exact ⟨by rw [H0.out]; rfl, stay_setRow HB.out.2 (Nat.le_refl _) _⟩
end
end Go.Proofs.Ytnhmjheipfopoaa.L
namespace Go.Proofs.Ytnhmjheipfopoaa.L
open Go.RowKit Go.Maps Go.Shelf Go.Proofs.Ytnhmjheipfopoaa
attribute [local go_sem] Oper.semAt_some
section
variable {W : World} {p : Option Addr}

def enc2 (x : Nat) : Array Value := #[.int .i64 x, .int .i64 x]

set_option maxRecDepth 100000 in
set_option maxHeartbeats 2000000 in
theorem stretch_none (b1 b2 b3 : Nat) (V : World) (h1 : V.cell? ⟨b1, 0, none⟩ = some (.pointer p)) (x y : Int) (h2 : V.cell? ⟨b2, 0, none⟩ = some (.int .i64 x)) (h3 : V.cell? ⟨b3, 0, none⟩ = some (.int .i64 y)) (h : NoRel p V) :
    SeqL AnyT Try.prog 54 #[.pointer (some ⟨b1, 0, none⟩), .pointer (some ⟨b2, 0, none⟩), .pointer (some ⟨b3, 0, none⟩)] encPl (fun _ => False) ([] : List Nat) V := by
  intro l J Jx W hW hJ hJx hY h0
  have hb := bounds_none (h.stay hW) x y
  have q1 := hW.cell h1
  have q2 := hW.cell h2
  have q3 := hW.cell h3
  clear h h1 h2 h3 hY hJx hJ
  refine (callsIn_wide (n := 1)).1 (callsIn_of_wp Try.func54 rfl trivial ?_ rfl)
  simp only [Try.ntmps54, List.size_toArray, List.length_cons, List.length_nil, Nat.reduceAdd, Nat.reduceSub, Array.replicate_succ, Array.replicate_zero, List.push_toArray, List.append_toArray, List.nil_append, List.cons_append]
  gi_wp2_with (refine ⟨trivial, ?_⟩; gi_at_call 46; refine CallsIn.mono (callsIn_wide.2 hb) ?_; rintro e w' ⟨rfl, rfl⟩)
  have HI : Hid (J 0 w') := h0
  clear hb h0 q1 q2 q3
  gi_loopw [7] (fun ui wr => ui = .int .i64 0 ∧ wr = w') (fun _ _ => 0)
  case atStart => exact ⟨rfl, rfl⟩
  case round =>
    obtain ⟨rfl, rfl⟩ := hrel
    gi_wp2
    go_end0
    exact ⟨⟨_, rfl⟩, .inl HI.out⟩

theorem match1_none (V : World) : SeqL AnyT Try.prog 29 #[] enc2 (fun _ => False) ([] : List Nat) V := by
  intro l J Jx W hW hJ hJx hY h0
  refine (callsIn_wide (n := 1)).1 (callsIn_of_wp Try.func29 rfl trivial ?_ rfl)
  simp only [Try.ntmps29, List.size_toArray, List.length_cons, List.length_nil, Nat.reduceAdd, Nat.reduceSub, Array.replicate_succ, Array.replicate_zero, List.push_toArray, List.append_toArray, List.nil_append, List.cons_append]
  gi_wp2
  go_end0
  exact ⟨⟨_, rfl⟩, .inl h0⟩

theorem allR_any (W : World) (p : Option Addr) (x y : Int) : Calls Try.prog 12 #[.pointer p, .int .i64 x, .int .i64 y] W fun e w' => ∃ V, e = .returned (.func (.func 35) #[] #[.pointer (some ⟨W.heap.size, 0, none⟩), .pointer (some ⟨W.heap.size + 1, 0, none⟩), .pointer (some ⟨W.heap.size + 2, 0, none⟩)]) ∧ w' = V ∧ Stay W V ∧ V.heap.size = W.heap.size + 3 ∧
    V.cell? ⟨W.heap.size, 0, none⟩ = some (.pointer p) ∧ V.cell? ⟨W.heap.size + 1, 0, none⟩ = some (.int .i64 x) ∧ V.cell? ⟨W.heap.size + 2, 0, none⟩ = some (.int .i64 y) := by
  go_enter Try.func12, Try.ntmps12
  go_wp2
  go_ret
  have h0 : (((W.alloc (.cells #[.pointer p] 24)).alloc (.cells #[.int .i64 x] 3)).alloc (.cells #[.int .i64 y] 3)).heap[W.heap.size]? = some (.cells #[.pointer p] 24 (0, 0)) := (Below.heap_alloc _ _ _ (by simp; omega)).trans ((Below.heap_alloc _ _ _ (by simp)).trans (heap_new _ _))
  have h1 : (((W.alloc (.cells #[.pointer p] 24)).alloc (.cells #[.int .i64 x] 3)).alloc (.cells #[.int .i64 y] 3)).heap[W.heap.size + 1]? = some (.cells #[.int .i64 x] 3 (0, 0)) := by
    refine (Below.heap_alloc _ _ _ (by simp)).trans ?_
    have := heap_new (W.alloc (.cells #[.pointer p] 24)) (.cells #[.int .i64 x] 3)
    rwa [World.size_alloc] at this
  have h2 : (((W.alloc (.cells #[.pointer p] 24)).alloc (.cells #[.int .i64 x] 3)).alloc (.cells #[.int .i64 y] 3)).heap[W.heap.size + 2]? = some (.cells #[.int .i64 y] 3 (0, 0)) := by
    have := heap_new ((W.alloc (.cells #[.pointer p] 24)).alloc (.cells #[.int .i64 x] 3)) (.cells #[.int .i64 y] 3)
    rwa [World.size_alloc, World.size_alloc] at this
  exact ⟨_, rfl, rfl, ((Stay.new _ _).alloc _).alloc _, by simp, cell_of h0 rfl, cell_of h1 rfl, cell_of h2 rfl⟩

set_option maxRecDepth 100000 in
set_option maxHeartbeats 1000000 in
theorem all1_none (b1 b2 b3 : Nat) (V0 : World) (h1 : V0.cell? ⟨b1, 0, none⟩ = some (.pointer p)) (x y : Int) (h2 : V0.cell? ⟨b2, 0, none⟩ = some (.int .i64 x)) (h3 : V0.cell? ⟨b3, 0, none⟩ = some (.int .i64 y)) (h : NoRel p V0) :
    SeqL AnyT Try.prog 35 #[.pointer (some ⟨b1, 0, none⟩), .pointer (some ⟨b2, 0, none⟩), .pointer (some ⟨b3, 0, none⟩)] enc2 (fun _ => False) ([] : List Nat) V0 := by
  intro l J Jx W hW hJ hJx hY h0
  have q1 := (hW.trans (Stay.new W (.cells #[.func (.yield l) #[] #[]] 67))).cell h1
  have q2 := (hW.trans (Stay.new W (.cells #[.func (.yield l) #[] #[]] 67))).cell h2
  have q3 := (hW.trans (Stay.new W (.cells #[.func (.yield l) #[] #[]] 67))).cell h3
  have hst := stretch_any (W.alloc (.cells #[.func (.yield l) #[] #[]] 67)) p x y
  have HN : Hid (NoRel p W) := h.stay hW
  clear h h1 h2 h3 hY hJx hW
  refine (callsIn_wide (n := 8)).1 (callsIn_of_wp_marks Try.func35 rfl trivial ?_ rfl)
  simp only [Try.ntmps35, List.size_toArray, List.length_cons, List.length_nil, Nat.reduceAdd, Nat.reduceSub, Array.replicate_succ, Array.replicate_zero, List.push_toArray, List.append_toArray, List.nil_append, List.cons_append]
  gi_wp2_with (refine ⟨trivial, ?_⟩; gi_at_call 36; refine CallsIn.mono (callsIn_wide.2 hst) ?_; rintro e w2 ⟨V, rfl, rfl, sV, zV, -, p1, p2, p3⟩)
  have stV : Stay W w2 := (Stay.new _ _).trans sV
  rw [World.size_alloc] at p1 p2 p3 zV
  have sW : w2.heap.size = W.heap.size + 1 + 3 := zV
  have hJV : J 0 w2 := hJ _ _ _ h0 (Bel.of_stay stV (Nat.le_refl _))
  have hq := stretch_none _ _ _ w2 p1 x y p2 p3 (HN.out.stay stV)
  clear hst h0 q1 q2 q3 p1 p2 p3 sV zV
  refine' range_list (α := Nat) (T := AnyT) (n := 8) (by decide) (gf := 54) (lb := _) rfl (enters_of Try.func54 (by kernel_rfl) rfl) hq (fun i hi => hi.elim) (fun _ => rfl)
    (fun _ A => J 0 A ∧ w2.heap.size ≤ A.heap.size) (fun _ _ _ => False) (fun k A A' hA hb => ?hI) (fun c k A A' hA hb => hA.elim) ⟨hJV, Nat.le_refl _⟩ (fun _ W => W) (fun _ W => Stay.refl W) _ ?assign ?body ?done ?stop
  case hI => exact ⟨hJ _ _ _ hA.1 (hb.mono (by omega)), Nat.le_trans hA.2 hb.size⟩
  case assign =>
    intro l' y W' K hK
    dsimp only [encPl]
    gi_wp2
    exact hK
  case body =>
    intro l' k hk
    exact absurd hk (Nat.not_lt_zero _)
  case stop =>
    intro c k A hk
    exact absurd hk (Nat.not_lt_zero _)
  case done =>
    rintro A ⟨hJA, -⟩ hdd
    have HJ : Hid (J 0 A) := hJA
    clear hJA hJV hq
    gi_wp2
    exact leaves_marks (T := AnyT) ((Marks.nil W.heap.size w2.heap.size A).cons (T := w2.heap.size + 1) w2.heap.size (Nat.le_refl _) (by omega) (by omega) hdd) fun w' hw' => ⟨_, results_none rfl _ _ _, ⟨_, rfl⟩, .inl (hJ _ _ _ HJ.out hw')⟩

theorem setCell_box (A : World) (b : Nat) (t : TypeId) (v v' : Value) (h : A.heap[b]? = some (.cells #[v] t (0, 0))) : (A.setCell ⟨b, 0, none⟩ v').heap[b]? = some (.cells #[v'] t (0, 0)) := by
  rw [heap_setCell_same _ _ _ _ _ _ h]; simp

set_option maxRecDepth 100000 in
set_option maxHeartbeats 1000000 in
/-- none, of a function that tells nothing. -/
theorem none_any (gf : Nat) (lb : Array Value) (w : World) (eg : ∀ args w, (callFunc gf args).run Try.prog w = .ok (.enter gf args) w) (hseq : SeqL AnyT Try.prog gf lb enc2 (fun _ => False) ([] : List Nat) w) :
    Calls Try.prog 49 #[.func (.func gf) #[] lb] w fun e w' => e = .returned (.bool true) ∧ Stay w w' := by
  have hne : (binOp .eql 32 (.func (.func gf) #[] lb) .nilFunc).run Try.prog (w.alloc (.cells #[.bool false] 4)) = .ok (.bool false) (w.alloc (.cells #[.bool false] 4)) := by kernel_rfl
  have stV : Stay w (w.alloc (.cells #[.bool false] 4)) := Stay.new _ _
  have hq := hseq.stay stV
  have hbx : (w.alloc (.cells #[.bool false] 4)).heap[w.heap.size]? = some (.cells #[.bool false] 4 (0, 0)) := heap_new _ _
  have hsz : (w.alloc (.cells #[.bool false] 4)).heap.size = w.heap.size + 1 := World.size_alloc _ _
  clear hseq
  refine (callsIn_wide (n := 8)).1 (callsIn_of_wp_marks Try.func49 rfl trivial ?_ rfl)
  simp only [Try.ntmps49, List.size_toArray, List.length_cons, List.length_nil, Nat.reduceAdd, Nat.reduceSub, Array.replicate_succ, Array.replicate_zero, List.push_toArray, List.append_toArray, List.nil_append, List.cons_append]
  gi_wp2
  clear hne
  generalize w.alloc (.cells #[.bool false] 4) = V at stV hq hbx hsz ⊢
  refine' range_list (α := Nat) (T := AnyT) (n := 8) (by decide) (gf := gf) (lb := lb) rfl eg hq (fun i hi => hi.elim) (fun _ => rfl)
    (fun _ A => Stay w A ∧ A.heap[w.heap.size]? = some (.cells #[.bool false] 4 (0, 0)) ∧ V.heap.size ≤ A.heap.size) (fun _ _ _ => False) (fun k A A' hA hb => ?hI) (fun c k A A' hA hb => hA.elim) ⟨stV, hbx, Nat.le_refl _⟩ (fun _ W => W) (fun _ W => Stay.refl W) _ ?assign ?body ?done ?stop
  case hI => exact ⟨Below.trans hA.1 (Below.mono hb.1 (by omega)), (hb.2 _ ⟨_, _, _, hA.2.1, trivial⟩).trans hA.2.1, Nat.le_trans hA.2.2 hb.size⟩
  case assign =>
    intro l' y W' K hK
    dsimp only [enc2]
    gi_wp2
    exact hK
  case body =>
    intro l' k hk
    exact absurd hk (Nat.not_lt_zero _)
  case stop =>
    intro c k A hk
    exact absurd hk (Nat.not_lt_zero _)
  case done =>
    rintro A ⟨hA1, hA2, hA3⟩ hdd
    have cq : A.cell? ⟨w.heap.size, 0, none⟩ = some (.bool false) := by simp [World.cell?, hA2]
    have fq : A.frozen? ⟨w.heap.size, 0, none⟩ = false := by simp [World.frozen?, hA2]
    have HA : Hid (Stay w (A.setCell ⟨w.heap.size, 0, none⟩ (.bool true)) ∧ (A.setCell ⟨w.heap.size, 0, none⟩ (.bool true)).heap[w.heap.size]? = some (.cells #[.bool true] 4 (0, 0)) ∧ (A.setCell ⟨w.heap.size, 0, none⟩ (.bool true)).heap[V.heap.size]? = some (.deferred (some []))) :=
      ⟨Below.setCell hA1 (p := ⟨w.heap.size, 0, none⟩) (Nat.le_refl _) _, setCell_box _ _ _ _ _ hA2, (Below.heap_setCell _ _ _ _ (by show V.heap.size ≠ w.heap.size; omega)).trans hdd⟩
    clear hA1 hA2 hA3 hdd hq hbx stV
    gi_wp2
    refine leaves_marks (T := AnyT) ((Marks.nil w.heap.size V.heap.size _).cons (T := V.heap.size + 1) V.heap.size (Nat.le_refl _) (by omega) (by omega) HA.out.2.2) fun w' hw' => ⟨.bool true, ?_, rfl, Below.trans HA.out.1 hw'.1⟩
    have h3 : w'.cell? ⟨w.heap.size, 0, none⟩ = some (.bool true) := by
      have := (hw'.2 _ ⟨_, _, _, HA.out.2.1, trivial⟩).trans HA.out.2.1
      simp [World.cell?, this]
    simp [results, Try.results49, go_sem, h3]
end
end Go.Proofs.Ytnhmjheipfopoaa.L
namespace Go.Proofs.Ytnhmjheipfopoaa.L
open Go.RowKit Go.Maps Go.Shelf Go.Proofs.Ytnhmjheipfopoaa

section
variable {W : World} {p : Option Addr}

theorem q4num_any (e : Int) (w : World) : Calls Try.prog 17 #[.int .i64 e] w fun r w' => r = .returned (.int .i64 e) ∧ w' = w := by
  go_enter Try.func17, Try.ntmps17
  go_wp2
  go_ret
  exact ⟨rfl, rfl⟩

set_option maxRecDepth 100000 in
set_option maxHeartbeats 1000000 in
theorem match_none (h : NoRel p W) (a : Option Addr) (n c : Nat) (a2 : Option Addr) (n2 c2 : Nat) (x y : Int) : Calls Try.prog 10 #[.pointer p, .slice a n c, .slice a2 n2 c2, .int .i64 x, .int .i64 y] W fun e w' => e = .returned (.func (.func 29) #[] #[]) ∧ Stay W w' := by
  obtain ⟨V, hV⟩ : ∃ V, V = (((W.alloc (.cells #[.pointer p] 24)).alloc (.cells #[.slice a2 n2 c2] 23)).alloc (.cells #[.int .i64 x] 3)).alloc (.cells #[.int .i64 y] 3) := ⟨_, rfl⟩
  have hsV : Stay W V := by rw [hV]; exact (((Stay.new _ _).alloc _).alloc _).alloc _
  have hask := ask_none (h.stay hsV) a n c a2 n2 c2
  have hz := zeroRow
  obtain ⟨Z, hZ⟩ : ∃ Z, Z = rowV 0 := ⟨_, rfl⟩
  rw [← hZ] at hz hask
  have H0 : Hid (Z = rowV 0) := hZ
  have HV : Hid (Stay W V) := hsV
  rw [hV] at hask
  clear hZ h hsV
  go_enter Try.func10, Try.ntmps10
  go_wp2_with (first
    | (go_at_call 28; refine hask.mono ?_; rw [← hV]; rintro e w1 ⟨rfl, hs1⟩; have HS1 : Hid (Stay W w1) := HV.out.trans hs1; clear hs1 hask hV)
    | (refine wpList_store_fresh rfl 64 (.tmp 11) (.tmp 18) rfl Z Z rfl rfl 64 (by rw [H0.out]; exact sizeRow' _) rfl (by rw [H0.out]; exact rowV_one _) ?_))
  go_ret
  exact ⟨rfl, HS1.out.alloc _⟩

theorem all_tells (h : NoRel p W) (x y : Int) : Calls Try.prog 12 #[.pointer p, .int .i64 x, .int .i64 y] W fun e w' => ∃ b1 b2 b3, e = .returned (.func (.func 35) #[] #[.pointer (some ⟨b1, 0, none⟩), .pointer (some ⟨b2, 0, none⟩), .pointer (some ⟨b3, 0, none⟩)]) ∧ Stay W w' ∧
    Calls Try.prog 49 #[.func (.func 35) #[] #[.pointer (some ⟨b1, 0, none⟩), .pointer (some ⟨b2, 0, none⟩), .pointer (some ⟨b3, 0, none⟩)]] w' fun e w2 => e = .returned (.bool true) ∧ Stay w' w2 :=
  (allR_any W p x y).mono fun _ _ ⟨V, h1, h2, h3, _, c1, c2, c3⟩ => ⟨_, _, _, h1, h2 ▸ h3, h2 ▸ none_any _ _ V (enters_of Try.func35 (by kernel_rfl) rfl) (all1_none _ _ _ V c1 x y c2 c3 (h.stay h3))⟩

theorem match_tells (w : World) : Calls Try.prog 49 #[.func (.func 29) #[] #[]] w fun e w2 => e = .returned (.bool true) ∧ Stay w w2 :=
  none_any _ _ w (enters_of Try.func29 (by kernel_rfl) rfl) (match1_none w)

set_option maxRecDepth 100000 in
set_option maxHeartbeats 4000000 in
theorem nothing_any (h : NoRel p W) : Calls Try.prog 24 #[.pointer p] W fun e w' => e = .returned (.bool true) ∧ Stay W w' := by
  have HN : Hid (NoRel p W) := h
  have hnum := q4num_any
  clear h
  go_enter Try.func24, Try.ntmps24
  go_wp2_with (first
    | (go_at_call 18; refine (add_none (HN.out.stay (by (repeat (first | exact Stay.refl _ | assumption | exact Hid.out (by assumption) | refine Stay.alloc ?_ _)))) _ _ _).mono ?_; rintro e w9 ⟨rfl, hw⟩; have hw' := hw.symm; subst hw')
    | (go_at_call 42; refine (place_none (HN.out.stay (by (repeat (first | exact Stay.refl _ | assumption | exact Hid.out (by assumption) | refine Stay.alloc ?_ _)))) _ _ _).mono ?_; rintro e w9 ⟨rfl, hw⟩; have hw' := hw.symm; subst hw')
    | (go_at_call 21; refine (atR_none (HN.out.stay (by (repeat (first | exact Stay.refl _ | assumption | exact Hid.out (by assumption) | refine Stay.alloc ?_ _)))) _).mono ?_; rintro e w9 ⟨rfl, hw⟩; have hw' := hw.symm; subst hw')
    | (go_at_call 23; refine (count_none (HN.out.stay (by (repeat (first | exact Stay.refl _ | assumption | exact Hid.out (by assumption) | refine Stay.alloc ?_ _)))) _ _ _ _ _ _ _ _).mono ?_; rintro e w9 ⟨rfl, hw⟩; have hw' := hw.symm; subst hw')
    | (go_at_call 20; refine (distinct_none (HN.out.stay (by (repeat (first | exact Stay.refl _ | assumption | exact Hid.out (by assumption) | refine Stay.alloc ?_ _)))) _ _ _).mono ?_; rintro e w9 ⟨rfl, hw⟩; have hw' := hw.symm; subst hw')
    | (go_at_call 19; refine (len_none (HN.out.stay (by (repeat (first | exact Stay.refl _ | assumption | exact Hid.out (by assumption) | refine Stay.alloc ?_ _))))).mono ?_; rintro e w9 ⟨rfl, hw⟩; have hw' := hw.symm; subst hw')
    | (go_at_call 47; refine (arity_none (HN.out.stay (by (repeat (first | exact Stay.refl _ | assumption | exact Hid.out (by assumption) | refine Stay.alloc ?_ _))))).mono ?_; rintro e w9 ⟨rfl, hw⟩; have hw' := hw.symm; subst hw')
    | (go_at_call 48; refine (copy_none (HN.out.stay (by (repeat (first | exact Stay.refl _ | assumption | exact Hid.out (by assumption) | refine Stay.alloc ?_ _))))).mono ?_; rintro e w9 ⟨rfl, hw⟩; have hw' := hw.symm; subst hw')
    | (go_at_call 17; refine (hnum _ _).mono ?_; rintro e w9 ⟨rfl, hw⟩; have hw' := hw.symm; subst hw')
    | (go_at_call 12; refine (all_tells (HN.out.stay (by (repeat (first | exact Stay.refl _ | assumption | exact Hid.out (by assumption) | refine Stay.alloc ?_ _)))) 0 9).mono ?_; rintro e wa ⟨b1, b2, b3, rfl, hs, hno⟩; have HSa : Hid (Stay W wa) := Stay.trans (by (repeat (first | exact Stay.refl _ | assumption | exact Hid.out (by assumption) | refine Stay.alloc ?_ _))) hs; clear hs)
    | (go_at_call 49; refine hno.mono ?_; rintro e wn ⟨rfl, hs⟩; have HSn : Hid (Stay W wn) := HSa.out.trans hs; clear hs hno)
    | (go_at_call 10; refine (match_none (HN.out.stay (by (repeat (first | exact Stay.refl _ | assumption | exact Hid.out (by assumption) | refine Stay.alloc ?_ _)))) _ _ _ _ _ _ 0 9).mono ?_; rintro e wm ⟨rfl, hs⟩; have HSa : Hid (Stay W wm) := Stay.trans (by (repeat (first | exact Stay.refl _ | assumption | exact Hid.out (by assumption) | refine Stay.alloc ?_ _))) hs; clear hs; have hno := match_tells wm))
  go_ret
  exact ⟨rfl, by (repeat (first | exact Stay.refl _ | assumption | exact Hid.out (by assumption) | refine Stay.alloc ?_ _))⟩
end
end Go.Proofs.Ytnhmjheipfopoaa.L
