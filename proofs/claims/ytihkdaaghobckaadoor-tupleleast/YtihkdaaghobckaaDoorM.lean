/- lend, kept: numbers with marks behind them. -/
import Derived.Test.YtihkdaaghobckaaDoorJ
namespace Go.Proofs.YtihkdaaghobckaaDoor
open Go.RowKit Go.Maps

def marks (k : Nat) : List Int := (List.range k).map fun i : Nat => -70 - (i : Int)
theorem marks_succ (k : Nat) : marks (k + 1) = marks k ++ [-70 - (k : Int)] := by simp [marks, List.range_succ]
theorem marks_len (k : Nat) : (marks k).length = k := by simp [marks]

/-- xs is lent: it lies in block g, with marks behind it. -/
def Lent (base : Nat) (w : World) (g cap : Nat) (xs : List Int) : Prop := OwnI base w (.slice (some ⟨g, 0, none⟩) (xs.length + 9) cap) (xs ++ marks 9)

theorem Lent.ints {base : Nat} {w : World} {g cap : Nat} {xs : List Int} (h : Lent base w g cap xs) : IntsS w (some ⟨g, 0, none⟩) g 0 xs := by
  unfold Lent OwnI at h
  rw [List.length_append, marks_len, List.map_append] at h
  exact ints_of_row h
theorem Lent.stay {base : Nat} {w w' : World} {g cap : Nat} {xs : List Int} (h : Lent base w g cap xs) (hs : Stay w w') : Lent base w' g cap xs := OwnI.stay h hs
theorem Lent.bound {base : Nat} {w : World} {g cap : Nat} {xs : List Int} (h : Lent base w g cap xs) : base ≤ g ∧ xs.length + 9 ≤ cap ∧ cap ≤ maxLen ∧ g < w.heap.size := by
  unfold Lent OwnI at h
  rw [List.length_append, marks_len] at h
  exact ⟨(rowBound h rfl).1, (rowBound h rfl).2.1, (rowBound h rfl).2.2, (h.lt g rfl).2⟩
theorem Lent.mark {base : Nat} {w : World} {g cap : Nat} {xs : List Int} (h : Lent base w g cap xs) (k : Nat) (hk : k < 9) : w.cell? ⟨g, xs.length + k, none⟩ = some (.int .i64 (-70 - (k : Int))) := by
  unfold Lent OwnI at h
  rw [List.length_append, marks_len] at h
  refine row_cell h _ _ ?_
  rw [List.getElem?_map, List.getElem?_append_right (by omega)]
  simp [marks, hk]

theorem own_lit0 (w : World) : OwnI w.heap.size (w.alloc (.cells #[] 3)) (.slice (some ⟨w.heap.size, 0, none⟩) 0 0) [] :=
  World.ownsRow_made w #[] 0 (Nat.le_refl _) (Nat.zero_le _) rfl

theorem own_form {base n : Nat} {w : World} {v : Value} {e : TypeId} {xs : List Value} (h : w.ownsRow base e 1 v (n + 1) xs) : ∃ g c, v = .slice (some ⟨g, 0, none⟩) (n + 1) c := by
  rcases h.2 with ⟨_, h2⟩ | ⟨b, c, cur, hv, _⟩
  · omega
  · exact ⟨b, c, hv⟩

set_option maxRecDepth 100000 in
set_option maxHeartbeats 1000000 in
theorem lend_some (w : World) (ad : Addr) (cap : Nat) (xs : List Int) (X : List Value) (hX : X = xs.map (Value.int .i64)) (hx : ∀ j u, X[j]? = some u → w.cell? (ad.add j) = some u) (hb : (xs.length + 9) * 8 ≤ 140737488355328) :
    Calls Tryd.prog 7 #[.slice (some ad) xs.length cap] w fun e w' => ∃ g c, e = .returned (.slice (some ⟨g, 0, none⟩) xs.length c) ∧ Lent w.heap.size w' g c xs ∧ Stay w w' := by
  obtain ⟨i0, hi, hz0, hz1, hz2⟩ := info_parts infoInt
  have HX : Hid ((∀ j u, X[j]? = some u → w.cell? (ad.add j) = some u) ∧ (∀ u ∈ X, u.oneCell' = true) ∧ X.length = xs.length ∧ X = xs.map (Value.int .i64)) := ⟨hx, by simp [hX, Value.oneCell'], by simp [hX], hX⟩
  have HO := own_lit0 w
  clear hx hX
  go_enter Tryd.func7, Tryd.ntmps7
  go_wp2_with (at_builtin; refine wpList_append_own _ rfl _ _ 22 rfl w.heap.size 3 i0 _ 1 8 Tryd.underlying22 hi hz0 hz1 hz2 rfl (by decide) (.slice (some ⟨w.heap.size, 0, none⟩) 0 0) 0 [] rfl HO ad xs.length cap X rfl (by rw [HX.out.2.2.1]; simp) (fun j u h => (Stay.new w _).cell (HX.out.1 j u h)) HX.out.2.1 (by unfold maxLen; omega) (by omega) (by rw [World.size_alloc]; omega) ?_; intro v1 w1 hown1 hg1 hn1; have HR : Hid (OwnI w.heap.size w1 v1 (xs ++ marks 0) ∧ Stay w w1) := ⟨by unfold OwnI; rw [Nat.zero_add, List.nil_append, HX.out.2.2.2] at hown1; simpa [marks] using hown1, (Stay.new w _).grown hg1 (by rw [World.size_alloc]; omega) (fun k e => by simp [Value.ownBlock] at e; omega)⟩; clear hown1 hg1 hn1 HO)
  go_loopw [3, 4] (fun v i wr => ∃ k : Nat, k ≤ 9 ∧ i = .int .i64 k ∧ OwnI w.heap.size wr v (xs ++ marks k) ∧ Stay w wr) (fun v i _ => 9 - (intOf i).toNat)
  case atStart => exact ⟨0, by omega, rfl, HR.out.1, HR.out.2⟩
  case round =>
    obtain ⟨k, hk, rfl, hown, hst⟩ := hrel
    by_cases hlt : k < 9
    · have hi1 : (k : Int) < 9 := by omega
      have HO2 : Hid (OwnI w.heap.size wr u3 (xs ++ marks k) ∧ Stay w wr) := ⟨hown, hst⟩
      have HN : Hid (xs ++ marks (k + 1) = (xs ++ marks k) ++ [-70 - (k : Int)]) := by show _ = _; rw [marks_succ, List.append_assoc]
      have hl : (xs ++ marks k).length = xs.length + k := by rw [List.length_append, marks_len]
      clear hown hst HR
      go_wp2_with (at_builtin; refine wpList_append_own _ rfl _ _ 22 rfl w.heap.size 3 i0 _ 1 8 Tryd.underlying22 hi hz0 hz1 hz2 rfl (by decide) u3 (xs ++ marks k).length ((xs ++ marks k).map (Value.int .i64)) rfl (HO2.out.1.alloc _) ⟨wr.heap.size, 0, none⟩ 1 1 [.int .i64 (-70 - (k : Int))] rfl rfl (new_cells wr [.int .i64 (-70 - (k : Int))] 3) (by simp [Value.oneCell']) (by unfold maxLen; omega) (by omega) (by rw [World.size_alloc]; have := HO2.out.2.size; omega) ?_; intro v2 w2 hown2 hg2 hn2; have HR : Hid (OwnI w.heap.size w2 v2 (xs ++ marks (k + 1)) ∧ Stay w w2) := ⟨by rw [HN.out]; unfold OwnI; rw [List.length_append (bs := [-70 - (k : Int)]), List.map_append (l₂ := [-70 - (k : Int)])]; exact hown2, (HO2.out.2.alloc _).grown hg2 (by rw [World.size_alloc]; have := HO2.out.2.size; omega) (fun k e => (HO2.out.1.lt k e).1)⟩; clear hown2 hg2 hn2)
      go_roundw
      case rel => exact ⟨k + 1, by omega, by go_num, HR.out.1, HR.out.2⟩
      case measure => simp [intOf]; omega
    · have hi1 : ¬ (k : Int) < 9 := by omega
      obtain rfl : k = 9 := by omega
      unfold OwnI at hown
      rw [List.length_append, marks_len] at hown
      obtain ⟨g, c, rfl⟩ := own_form hown
      have hb1 := (rowBound hown rfl).2.1
      have hb2 : ((xs.length : Nat) : Int) ≤ (c : Int) := by omega
      have hb3 := (rowBound hown rfl).2.2
      unfold maxLen at hb3
      have HN : Hid (Lent w.heap.size wr g c xs ∧ Stay w wr) := ⟨by unfold Lent OwnI; rw [List.length_append, marks_len]; exact hown, hst⟩
      clear hown hst HR
      go_wp2
      go_ret
      exact ⟨g, c, rfl, HN.out.1, HN.out.2⟩

set_option maxRecDepth 100000 in
set_option maxHeartbeats 1000000 in
theorem lend_none (w : World) : Calls Tryd.prog 7 #[.slice none 0 0] w fun e w' => ∃ g c, e = .returned (.slice (some ⟨g, 0, none⟩) 0 c) ∧ Lent w.heap.size w' g c [] ∧ Stay w w' := by
  obtain ⟨i0, hi, hz0, hz1, hz2⟩ := info_parts infoInt
  obtain ⟨xs, hxs⟩ : ∃ xs : List Int, xs = [] := ⟨_, rfl⟩
  have HR : Hid (OwnI w.heap.size (w.alloc (.cells #[] 3)) (.slice (some ⟨w.heap.size, 0, none⟩) 0 0) (xs ++ marks 0) ∧ Stay w (w.alloc (.cells #[] 3))) := by rw [hxs]; exact ⟨own_lit0 w, Stay.new _ _⟩
  have HXS : Hid (xs = []) := hxs
  have hb : (xs.length + 9) * 8 ≤ 140737488355328 := by rw [hxs]; decide
  clear hxs
  go_enter Tryd.func7, Tryd.ntmps7
  go_wp2
  go_loopw [3, 4] (fun v i wr => ∃ k : Nat, k ≤ 9 ∧ i = .int .i64 k ∧ OwnI w.heap.size wr v (xs ++ marks k) ∧ Stay w wr) (fun v i _ => 9 - (intOf i).toNat)
  case atStart => exact ⟨0, by omega, rfl, HR.out.1, HR.out.2⟩
  case round =>
    obtain ⟨k, hk, rfl, hown, hst⟩ := hrel
    by_cases hlt : k < 9
    · have hi1 : (k : Int) < 9 := by omega
      have HO2 : Hid (OwnI w.heap.size wr u3 (xs ++ marks k) ∧ Stay w wr) := ⟨hown, hst⟩
      have HN : Hid (xs ++ marks (k + 1) = (xs ++ marks k) ++ [-70 - (k : Int)]) := by show _ = _; rw [marks_succ, List.append_assoc]
      have hl : (xs ++ marks k).length = xs.length + k := by rw [List.length_append, marks_len]
      clear hown hst HR
      go_wp2_with (at_builtin; refine wpList_append_own _ rfl _ _ 22 rfl w.heap.size 3 i0 _ 1 8 Tryd.underlying22 hi hz0 hz1 hz2 rfl (by decide) u3 (xs ++ marks k).length ((xs ++ marks k).map (Value.int .i64)) rfl (HO2.out.1.alloc _) ⟨wr.heap.size, 0, none⟩ 1 1 [.int .i64 (-70 - (k : Int))] rfl rfl (new_cells wr [.int .i64 (-70 - (k : Int))] 3) (by simp [Value.oneCell']) (by unfold maxLen; omega) (by omega) (by rw [World.size_alloc]; have := HO2.out.2.size; omega) ?_; intro v2 w2 hown2 hg2 hn2; have HR : Hid (OwnI w.heap.size w2 v2 (xs ++ marks (k + 1)) ∧ Stay w w2) := ⟨by rw [HN.out]; unfold OwnI; rw [List.length_append (bs := [-70 - (k : Int)]), List.map_append (l₂ := [-70 - (k : Int)])]; exact hown2, (HO2.out.2.alloc _).grown hg2 (by rw [World.size_alloc]; have := HO2.out.2.size; omega) (fun k e => (HO2.out.1.lt k e).1)⟩; clear hown2 hg2 hn2)
      go_roundw
      case rel => exact ⟨k + 1, by omega, by go_num, HR.out.1, HR.out.2⟩
      case measure => simp [intOf]; omega
    · have hi1 : ¬ (k : Int) < 9 := by omega
      obtain rfl : k = 9 := by omega
      unfold OwnI at hown
      rw [List.length_append, marks_len] at hown
      obtain ⟨g, c, rfl⟩ := own_form hown
      have hb1 := (rowBound hown rfl).2.1
      have hb2 : ((xs.length : Nat) : Int) ≤ (c : Int) := by omega
      have hb3 := (rowBound hown rfl).2.2
      unfold maxLen at hb3
      have HN : Hid (Lent w.heap.size wr g c xs ∧ Stay w wr) := ⟨by unfold Lent OwnI; rw [List.length_append, marks_len]; exact hown, hst⟩
      clear hown hst HR
      go_wp2
      go_ret
      exact ⟨g, c, rfl, by have := HN.out.1; rw [HXS.out] at this; exact this, HN.out.2⟩

/-- lend: the numbers in new memory, nine marks behind them. -/
theorem lend_any (w : World) (a : Option Addr) (b off cap : Nat) (xs : List Int) (hS : IntsS w a b off xs) (ha : a = none → cap = 0 ∧ xs = []) (hb : (xs.length + 9) * 8 ≤ 140737488355328) :
    Calls Tryd.prog 7 #[.slice a xs.length cap] w fun e w' => ∃ g c, e = .returned (.slice (some ⟨g, 0, none⟩) xs.length c) ∧ Lent w.heap.size w' g c xs ∧ Stay w w' := by
  cases a with
  | none =>
    obtain ⟨rfl, rfl⟩ := ha rfl
    exact lend_none w
  | some ad =>
    refine lend_some w ad cap xs _ rfl (fun j u hu => ?_) hb
    obtain ⟨ad', h1, h2⟩ := src_of hS (Nat.lt_of_le_of_lt (Nat.zero_le j) (List.getElem?_eq_some_iff.1 hu).1)
    obtain rfl := Option.some.inj h1
    exact h2 j u hu

set_option maxRecDepth 100000 in
set_option maxHeartbeats 1000000 in
/-- kept: what is lent is as it was. -/
theorem kept_any (w : World) (g c : Nat) (a2 : Option Addr) (b2 o2 c2 base : Nat) (xs : List Int) (hl : Lent base w g c xs) (hS : IntsS w a2 b2 o2 xs) :
    Calls Tryd.prog 11 #[.slice (some ⟨g, 0, none⟩) xs.length c, .slice a2 xs.length c2] w fun e w' => e = .returned (.bool true) ∧ ∃ n, w' = w.drewN n := by
  obtain ⟨_, hb1, hb2, _⟩ := hl.bound
  have HI := ints_any w (some ⟨g, 0, none⟩) a2 g 0 b2 o2 c c2 xs xs hl.ints hS (by omega) (by omega)
  rw [show decide (xs = xs) = true by simp] at HI
  have HM : Hid (∀ k, k < 9 → w.cell? ⟨g, xs.length + k, none⟩ = some (.int .i64 (-70 - (k : Int)))) := fun k hk => hl.mark k hk
  unfold maxLen at hb2
  have hb3 : (xs.length : Int) + 9 ≤ (c : Int) := by omega
  have hb4 : (c : Int) ≤ 9223372036854775807 := by omega
  clear hl hS
  go_enter Tryd.func11, Tryd.ntmps11
  go_wp2
  go_loopw [6] (fun i wr => ∃ k : Nat, k ≤ 9 ∧ i = .int .i64 k ∧ w = wr) (fun i _ => 9 - (intOf i).toNat)
  case atStart => exact ⟨0, by omega, rfl, rfl⟩
  case round =>
    obtain ⟨k, hk, rfl, rfl⟩ := hrel
    by_cases hlt : k < 9
    · have hi1 : (k : Int) < 9 := by omega
      have hm := HM.out k hlt
      have hi2 : (xs.length : Int) + (k : Int) < (xs.length : Int) + 9 := by omega
      go_wp2
      go_roundw
      case rel => exact ⟨k + 1, by omega, by go_num, by first | rfl | trivial⟩
      case measure => simp [intOf]; omega
    · have hi1 : ¬ (k : Int) < 9 := by omega
      go_wp2_with (go_at_call 14; refine Calls.mono HI ?_; rintro e w9 ⟨rfl, n, hn⟩; subst hn)
      go_ret
      exact ⟨rfl, n, rfl⟩
end Go.Proofs.YtihkdaaghobckaaDoor
