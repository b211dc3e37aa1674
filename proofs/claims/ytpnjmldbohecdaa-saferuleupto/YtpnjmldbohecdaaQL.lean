/- The first loose variable: Rule. -/
import Derived.Test.YtpnjmldbohecdaaQK
import Derived.Test.YtpnjmldbohecdaaXS
namespace Go.Proofs.Ytpnjmldbohecdaa
open Go.RowKit Go.Maps Go.Shelf
attribute [local go_sem] Oper.semAt_some

theorem clone_any (s : ByteArray) (w : World) (hs : s.size ≤ 1048576) : Calls Try.prog 29 #[.string s] w fun e w' => e = .returned (.string s) ∧ Stay w w' := by
  have hc := Try.stringslite_Clone s w (by omega)
  go_enter Try.func29, Try.ntmps29
  go_wp2_with (go_at_call 47; refine Calls.mono hc ?_; rintro e w' ⟨rfl, hb⟩)
  go_ret
  exact ⟨rfl, hb⟩

/-- What Rule tells. -/
def headN : List (Int × ByteArray) → ByteArray
  | [] => ⟨#[]⟩
  | p :: _ => p.2
def noneB : List (Int × ByteArray) → Bool
  | [] => true
  | _ :: _ => false
def ruleN (x : Ru) : ByteArray := headN (looseP x)
def ruleB (x : Ru) : Bool := noneB (looseP x)
theorem two_set (A : World) (b1 b2 n : Nat) (v1 v2 o1 o2 : Value) (hne : b1 ≠ b2) (h1 : A.cell? ⟨b1, 0, none⟩ = some o1) (h2 : A.cell? ⟨b2, 0, none⟩ = some o2) (hn1 : n ≤ b1) (hn2 : n ≤ b2) :
    ((A.setCell ⟨b1, 0, none⟩ v1).setCell ⟨b2, 0, none⟩ v2).cell? ⟨b1, 0, none⟩ = some v1 ∧ ((A.setCell ⟨b1, 0, none⟩ v1).setCell ⟨b2, 0, none⟩ v2).cell? ⟨b2, 0, none⟩ = some v2 ∧
    (∀ k, k ≠ b1 → k ≠ b2 → ((A.setCell ⟨b1, 0, none⟩ v1).setCell ⟨b2, 0, none⟩ v2).heap[k]? = A.heap[k]?) ∧ Below n A ((A.setCell ⟨b1, 0, none⟩ v1).setCell ⟨b2, 0, none⟩ v2) := by
  have hh : ∀ (B : World) (b k : Nat) (v : Value), k ≠ b → (B.setCell ⟨b, 0, none⟩ v).heap[k]? = B.heap[k]? := fun B b k v h => Below.heap_setCell _ _ _ _ (fun e => h e)
  have c1 := World.cell?_setCell_same' A ⟨b1, 0, none⟩ v1 (by rw [h1]; rfl)
  have c2 : (A.setCell ⟨b1, 0, none⟩ v1).cell? ⟨b2, 0, none⟩ = some o2 := (World.cell?_of_block (hh A b1 b2 v1 (Ne.symm hne))).trans h2
  have hz : A.heap.size ≤ ((A.setCell ⟨b1, 0, none⟩ v1).setCell ⟨b2, 0, none⟩ v2).heap.size := by simp [World.setCell]
  refine ⟨(World.cell?_of_block (hh _ b2 b1 v2 hne)).trans c1, World.cell?_setCell_same' _ ⟨b2, 0, none⟩ v2 (by rw [c2]; rfl), fun k e1 e2 => (hh _ _ _ _ e2).trans (hh _ _ _ _ e1), rfl, rfl, rfl, hz, fun k hk => (hh _ _ _ _ (by omega)).trans (hh _ _ _ _ (by omega))⟩

set_option maxRecDepth 100000 in
set_option maxHeartbeats 4000000 in
theorem rule_any (x : Ru) (w : World) (hM : x.In w) (hs : x.small) (hr : x.reads (fun i => i < w.heap.size)) (ht : x.shorts) : Calls Try.prog 8 #[x.v] w fun e w' => e = .returned (.tuple #[.string (ruleN x), .bool (ruleB x)]) ∧ Stay w w' := by
  have hls := fun w => loose_any x w
  obtain ⟨xs, hxs⟩ : ∃ xs, xs = looseP x := ⟨_, rfl⟩
  unfold ruleN ruleB
  rw [← hxs]
  dsimp only [Ru.v, At.sl] at hls ⊢
  refine (callsIn_wide (n := 8)).1 (callsIn_of_wp_marks Try.func8 rfl trivial ?_ rfl)
  simp only [Try.ntmps8, List.size_toArray, List.length_cons, List.length_nil, Nat.reduceAdd, Nat.reduceSub, Array.replicate_succ, Array.replicate_zero, List.push_toArray, List.append_toArray, List.nil_append, List.cons_append]
  gi_wp2_with (first | (refine ⟨trivial, ?_⟩; gi_at_call 28; refine CallsIn.mono (callsIn_wide.2 (hls _)) ?_; rintro e w' ⟨rfl, rfl⟩))
  obtain ⟨U, hU⟩ : ∃ U, U = w.alloc (.cells #[.string x.head.pred, .slice x.head.a x.head.ts.length x.head.cap, .slice x.a x.body.length x.cap] 27) := ⟨_, rfl⟩
  rw [← hU]
  have zU : U.heap.size = w.heap.size + 1 := by rw [hU]; simp
  have sU : Stay w U := by rw [hU]; exact Stay.new _ _
  obtain ⟨V, hV⟩ : ∃ V, V = ((U.alloc (.cells #[.string ⟨#[]⟩] 9)).alloc (.cells #[.bool false] 4)).alloc (.cells #[.string x.head.pred, .slice x.head.a x.head.ts.length x.head.cap, .slice x.a x.body.length x.cap] 27) := ⟨_, rfl⟩
  rw [← hV]
  have sV : V.heap.size = w.heap.size + 4 := by rw [hV]; simp [zU]
  have stV : Stay w V := by rw [hV]; exact ((sU.alloc _).alloc _).alloc _
  have v1 : V.heap[w.heap.size + 1]? = some (.cells #[.string ⟨#[]⟩] 9 (0, 0)) := by
    have := heap_new U (.cells #[.string ⟨#[]⟩] 9)
    rw [zU] at this
    rw [hV]; exact (Below.heap_alloc _ _ _ (by simp only [World.size_alloc]; omega)).trans ((Below.heap_alloc _ _ _ (by simp only [World.size_alloc]; omega)).trans this)
  have v2 : V.heap[w.heap.size + 1 + 1]? = some (.cells #[.bool false] 4 (0, 0)) := by
    have := heap_new (U.alloc (.cells #[.string ⟨#[]⟩] 9)) (.cells #[.bool false] 4)
    rw [World.size_alloc, zU] at this
    rw [hV]; exact (Below.heap_alloc _ _ _ (by simp only [World.size_alloc]; omega)).trans this
  have v3 : V.heap[w.heap.size + 1 + 1 + 1]? = some (.cells #[.string x.head.pred, .slice x.head.a x.head.ts.length x.head.cap, .slice x.a x.body.length x.cap] 27 (0, 0)) := by
    have := heap_new ((U.alloc (.cells #[.string ⟨#[]⟩] 9)).alloc (.cells #[.bool false] 4)) (.cells #[.string x.head.pred, .slice x.head.a x.head.ts.length x.head.cap, .slice x.a x.body.length x.cap] 27)
    rw [World.size_alloc, World.size_alloc, zU] at this
    rw [hV]; exact this
  have hHV : ∀ i, (i < w.heap.size ∨ i = w.heap.size + 1 + 1 + 1) → i < V.heap.size := fun i hi => by omega
  have hseq := loose_seq (fun _ => False) ⟨id, id, id, id, id, id, id⟩ x (w.heap.size + 1 + 1 + 1) (fun i => i < w.heap.size ∨ i = w.heap.size + 1 + 1 + 1) V (Ru.stay hM stV) v3 hs (hr.mono fun i h => .inl h) ht (.inr rfl) hHV
  have hsx : ∀ p ∈ xs, p.2.size ≤ 1048576 := fun p hp => placesR_short ht p (sel_mem (sel_mem (c := looseC (bindP x.body)) (by rw [hxs] at hp; exact hp)))
  rw [← hxs] at hseq
  clear hU hV hxs hls v3 sU zU
  refine' range_list (α := Int × ByteArray) (by decide) (gf := 46) (lb := #[.pointer (some ⟨w.heap.size + 1 + 1 + 1, 0, none⟩)]) rfl (enters_of Try.func46 (by kernel_rfl) rfl) hseq hHV (fun _ => rfl)
    (fun k A => k = 0 ∧ A.heap[w.heap.size + 1]? = V.heap[w.heap.size + 1]? ∧ A.heap[w.heap.size + 1 + 1]? = V.heap[w.heap.size + 1 + 1]? ∧ Below w.heap.size w A ∧ V.heap.size ≤ A.heap.size) (fun c k A => c = .ret ∧ (∃ h : 0 < xs.length, A.cell? ⟨w.heap.size + 1, 0, none⟩ = some (.string xs[0].2)) ∧ A.cell? ⟨w.heap.size + 1 + 1, 0, none⟩ = some (.bool false) ∧ Below w.heap.size w A ∧ V.heap.size ≤ A.heap.size) (fun k A A' hA hb => ?hI) (fun c k A A' hA hb => ?hIx) ⟨rfl, rfl, rfl, stV, Nat.le_refl _⟩ (fun _ W => W) (fun _ W => Stay.refl W) _ ?assign ?body ?done ?stop
  case hI => exact ⟨hA.1, (hb.block _ (by omega)).trans hA.2.1, (hb.block _ (by omega)).trans hA.2.2.1, hA.2.2.2.1.trans (Below.mono hb.1 (by omega)), Nat.le_trans hA.2.2.2.2 hb.size⟩
  case hIx =>
    obtain ⟨h1, ⟨h0, h2⟩, h3, h4, h5⟩ := hA
    exact ⟨h1, ⟨h0, below_cell hb.1 (by show w.heap.size + 1 < _; omega) h2⟩, below_cell hb.1 (by show w.heap.size + 1 + 1 < _; omega) h3, h4.trans (Below.mono hb.1 (by omega)), Nat.le_trans h5 hb.size⟩
  case assign =>
    intro l' y W' K hK
    dsimp only [encIS]
    gi_wp2
    exact hK
  case stop =>
    rintro c k A hk ⟨rfl, ⟨h0, h2⟩, h3, h4, h5⟩ hdd
    gi_wp2
    refine leaves_marks (T := fun _ => False) ((Marks.nil (w.heap.size + 3) V.heap.size A).cons (T := V.heap.size + 1) V.heap.size (Nat.le_refl _) (by omega) (by omega) hdd) fun w' hw' => ⟨.tuple #[.string xs[0].2, .bool false], ?_, ?_, h4.trans (Below.mono hw'.1 (by omega))⟩
    · have e1 := below_cell hw'.1 (by show w.heap.size + 1 < _; omega) h2
      have e2 := below_cell hw'.1 (by show w.heap.size + 1 + 1 < _; omega) h3
      simp [results, Try.results8, go_sem, e1, e2]
    · match xs, h0 with
      | p :: ps, _ => rfl
  case done =>
    rintro A ⟨hA1, hA2, hA3, hA4, hA5⟩ hdd
    have hx0 : xs = [] := List.eq_nil_of_length_eq_zero hA1
    subst hx0
    have c1 : A.cell? ⟨w.heap.size + 1, 0, none⟩ = some (.string ⟨#[]⟩) := by
      have := hA2.trans v1
      simp [World.cell?, this]
    have c2 : A.cell? ⟨w.heap.size + 1 + 1, 0, none⟩ = some (.bool false) := by
      have := hA3.trans v2
      simp [World.cell?, this]
    have f1 : A.frozen? ⟨w.heap.size + 1, 0, none⟩ = false := by
      have := hA2.trans v1
      simp [World.frozen?, this]
    have f2 : A.frozen? ⟨w.heap.size + 1 + 1, 0, none⟩ = false := by
      have := hA3.trans v2
      simp [World.frozen?, this]
    rw [sV] at hdd
    have HA : Hid (Below w.heap.size w A ∧ A.heap[w.heap.size + 4]? = some (.deferred (some []))) := ⟨hA4, hdd⟩
    clear hA1 hA2 hA3 hA4 hseq v1 v2 hdd
    gi_wp2
    obtain ⟨t1, t2, t3, t4⟩ := two_set A (w.heap.size + 1) (w.heap.size + 1 + 1) (w.heap.size) (.string ⟨#[]⟩) (.bool true) _ _ (by omega) c1 c2 (by omega) (by omega)
    have m1 := (Marks.nil (w.heap.size + 3) (w.heap.size + 4) _).cons (T := w.heap.size + 5) (w.heap.size + 4) (Nat.le_refl _) (by omega) (by omega) ((t3 _ (by omega) (by omega)).trans HA.out.2)
    have m2 := m1
    rw [← sV] at m2
    refine leaves_marks (T := fun _ => False) (B := w.heap.size + 3) (S := w.heap.size + 5) (by first | exact m1 | exact m2) fun w' hw' => ⟨.tuple #[.string ⟨#[]⟩, .bool true], ?_, rfl, Below.trans (HA.out.1.trans t4) (Below.mono hw'.1 (show w.heap.size ≤ w.heap.size + 3 by omega))⟩
    have e1 := below_cell hw'.1 (by show w.heap.size + 1 < _; omega) t1
    have e2 := below_cell hw'.1 (by show w.heap.size + 1 + 1 < _; omega) t2
    simp [results, Try.results8, go_sem, e1, e2]
  case body =>
    intro l' k hk W' X hX ho hWs hl' hXs
    obtain ⟨rfl, hA2, hA3, hA4, hA5⟩ := hX
    have hb1 : ∀ A, Stay X A → A.heap[w.heap.size + 1]? = some (.cells #[.string ⟨#[]⟩] 9 (0, 0)) ∧ A.heap[w.heap.size + 1 + 1]? = some (.cells #[.bool false] 4 (0, 0)) := fun A hA => ⟨(hA.block _ (by omega)).trans (hA2.trans v1), (hA.block _ (by omega)).trans (hA3.trans v2)⟩
    have hcl := clone_any xs[0].2 X (hsx _ (List.getElem_mem hk))
    have HX : Hid (Below w.heap.size w X) := hA4
    clear hA2 hA3 hA4 ho hseq v1 v2
    generalize hgp : xs[0] = p at *
    obtain ⟨pi, ps⟩ := p
    dsimp only [encIS] at *
    have hfacts : ∀ A, Stay X A → A.cell? ⟨w.heap.size + 1, 0, none⟩ = some (.string ⟨#[]⟩) ∧ A.cell? ⟨w.heap.size + 1 + 1, 0, none⟩ = some (.bool false) ∧ A.frozen? ⟨w.heap.size + 1, 0, none⟩ = false ∧ A.frozen? ⟨w.heap.size + 1 + 1, 0, none⟩ = false := fun A hA => by
      obtain ⟨g1, g2⟩ := hb1 A hA
      simp [World.cell?, World.frozen?, g1, g2]
    gi_wp2_with (refine ⟨trivial, ?_⟩; gi_at_call 29; refine CallsIn.mono (CallsIn.inRound l' (callsIn_wide.2 hcl)) ?_; rintro e w1 ⟨rfl, s1⟩; obtain ⟨e1, e2, f1, f2⟩ := hfacts w1 s1; have HS : Hid (Stay X w1) := s1; clear s1)
    obtain ⟨t1, t2, t3, t4⟩ := two_set w1 (w.heap.size + 1) (w.heap.size + 1 + 1) (w.heap.size) (.string ps) (.bool false) _ _ (by omega) e1 e2 (by omega) (by omega)
    have z1 := HS.out.size
    refine ⟨(fun i hi => have hi' : i ≠ w.heap.size + 1 ∧ i ≠ w.heap.size + 1 + 1 ∧ i < X.heap.size := hi.elim (fun hi => by omega) (fun hi => by have g1 := hi.1; have g2 := hi.2.1; omega); (t3 i hi'.1 hi'.2.1).trans (HS.out.block i hi'.2.2)), Nat.le_trans z1 t4.size, rfl, ⟨hk, ?_⟩, t2, Below.trans (HX.out.trans (Below.mono HS.out (by omega))) t4, by have := t4.size; omega⟩
    rw [show xs[0] = (pi, ps) from hgp]
    exact t1
end Go.Proofs.Ytpnjmldbohecdaa
