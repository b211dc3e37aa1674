/- Texts that are lent: LendTexts, KeptTexts. -/
import Derived.Test.YtjbglpeikhpieaaRB
namespace Go.Proofs.Ytjbglpeikhpieaa
open Go.RowKit Go.Maps

theorem infoS : (Try.prog.info? 9).map (fun i => (i.zero, i.size, i.bytes)) = some (some (.string ⟨#[]⟩), 1, 16) := by kernel_rfl
def mkT : ByteArray := ⟨#[0, 114, 111, 111, 109]⟩
/-- The texts xs and k marks behind them. -/
def textM (xs : List ByteArray) (k : Nat) : List Value := xs.map Value.string ++ List.replicate k (.string mkT)
theorem textM_succ (xs : List ByteArray) (k : Nat) : textM xs (k + 1) = textM xs k ++ [.string mkT] := by
  unfold textM
  rw [List.append_assoc, List.replicate_succ']
/-- xs is lent: it lies in block g, with marks behind it. -/
def LentT (base : Nat) (w : World) (g cap : Nat) (xs : List ByteArray) : Prop := w.ownsRow base 9 1 (.slice (some ⟨g, 0, none⟩) (xs.length + 3) cap) (xs.length + 3) (textM xs 3)
theorem ownsRow_stay {base n k : Nat} {w w' : World} {t : TypeId} {v : Value} {X : List Value} (h : w.ownsRow base t k v n X) (hs : Stay w w') : w'.ownsRow base t k v n X := by
  refine ⟨h.1, ?_⟩
  rcases h.2 with hx | ⟨b, c, cur, hv, hb, hh, rest⟩
  · exact .inl hx
  · exact .inr ⟨b, c, cur, hv, hb, (hs.block b (Array.getElem?_eq_some_iff.1 hh).1).trans hh, rest⟩
theorem LentT.stay {base : Nat} {w w' : World} {g cap : Nat} {xs : List ByteArray} (h : LentT base w g cap xs) (hs : Stay w w') : LentT base w' g cap xs := ownsRow_stay h hs
theorem LentT.strs {base : Nat} {w : World} {g cap : Nat} {xs : List ByteArray} (h : LentT base w g cap xs) : StrsS w (some ⟨g, 0, none⟩) g 0 xs := strs_of_row h
theorem LentT.bound {base : Nat} {w : World} {g cap : Nat} {xs : List ByteArray} (h : LentT base w g cap xs) : base ≤ g ∧ xs.length + 3 ≤ cap ∧ cap ≤ maxLen := rowBound h rfl
theorem LentT.mark {base : Nat} {w : World} {g cap : Nat} {xs : List ByteArray} (h : LentT base w g cap xs) (k : Nat) (hk : k < 3) : w.cell? ⟨g, xs.length + k, none⟩ = some (.string mkT) := by
  refine row_cell h _ _ ?_
  unfold textM
  rw [List.getElem?_append_right (by simp), List.length_map, Nat.add_sub_cancel_left, List.getElem?_replicate, if_pos hk]
theorem own_litS (w : World) : World.ownsRow (w.alloc (.cells #[] 9)) w.heap.size 9 1 (.slice (some ⟨w.heap.size, 0, none⟩) 0 0) 0 [] :=
  World.ownsRow_made w #[] 0 (Nat.le_refl _) (Nat.zero_le _) rfl
theorem own_formK {base n k : Nat} {w : World} {v : Value} {e : TypeId} {xs : List Value} (h : w.ownsRow base e k v (n + 1) xs) : ∃ g c, v = .slice (some ⟨g, 0, none⟩) (n + 1) c := by
  rcases h.2 with ⟨_, h2⟩ | ⟨b, c, cur, hv, _⟩
  · omega
  · exact ⟨b, c, hv⟩

set_option maxRecDepth 100000 in
set_option maxHeartbeats 1000000 in
theorem copyTexts_any (w : World) (a : Option Addr) (b off cap : Nat) (xs : List ByteArray) (hS : StrsS w a b off xs) (ha : a = none → cap = 0 ∧ xs = []) (hb : xs.length * 16 ≤ 140737488355328) :
    Calls Try.prog 44 #[.slice a xs.length cap] w fun e w' => ∃ v, e = .returned v ∧ w'.ownsRow w.heap.size 9 1 v xs.length (textM xs 0) ∧ Stay w w' := by
  obtain ⟨i0, hi, hz0, hz1, hz2⟩ := info_parts infoS
  have HO := own_litS w
  cases a with
  | none =>
    obtain ⟨rfl, rfl⟩ := ha rfl
    have HX : Hid (World.ownsRow (w.alloc (.cells #[] 9)) w.heap.size 9 1 (.slice (some ⟨w.heap.size, 0, none⟩) 0 0) 0 []) := HO
    clear HO hS ha
    go_enter Try.func44, Try.ntmps44
    go_wp2
    go_ret
    exact ⟨_, rfl, HX.out, Stay.new _ _⟩
  | some ad =>
    obtain ⟨X, hX⟩ : ∃ X, X = xs.map Value.string := ⟨_, rfl⟩
    have HX : Hid ((∀ j u, X[j]? = some u → w.cell? (ad.add j) = some u) ∧ (∀ u ∈ X, u.oneCell' = true) ∧ X.length = xs.length ∧ X = xs.map Value.string) := by
      refine ⟨fun j u hu => ?_, by simp [hX, Value.oneCell'], by simp [hX], hX⟩
      rw [hX] at hu
      have hl := (List.getElem?_eq_some_iff.1 hu).1
      simp at hl
      have h0 := hS.1 (by omega)
      simp only [Option.some.injEq] at h0
      subst h0
      have hc := hS.2 j hl
      rw [add_at]
      simp [hl] at hu
      rw [hc, ← hu]
    clear hX hS ha
    go_enter Try.func44, Try.ntmps44
    go_wp2_with (at_builtin; refine wpList_append_own _ rfl _ _ 22 rfl w.heap.size 9 i0 _ 1 16 Try.underlying22 hi hz0 hz1 hz2 rfl (by decide) (.slice (some ⟨w.heap.size, 0, none⟩) 0 0) 0 [] rfl HO ad xs.length cap X rfl (by rw [HX.out.2.2.1]; simp) (fun j u h => (Stay.new w _).cell (HX.out.1 j u h)) HX.out.2.1 (by unfold maxLen; omega) (by omega) (by rw [World.size_alloc]; omega) ?_; intro v1 w1 hown1 hg1 hn1; have HR : Hid (World.ownsRow w1 w.heap.size 9 1 v1 xs.length (textM xs 0) ∧ Stay w w1) := ⟨by rw [Nat.zero_add, List.nil_append, HX.out.2.2.2] at hown1; simpa [textM] using hown1, (Stay.new w _).grown hg1 (by rw [World.size_alloc]; omega) (fun k e => by simp [Value.ownBlock] at e; omega)⟩; clear hown1 hg1 hn1 HO)
    go_ret
    exact ⟨_, rfl, HR.out.1, HR.out.2⟩

set_option maxRecDepth 100000 in
set_option maxHeartbeats 1000000 in
theorem lendTexts_any (w : World) (a : Option Addr) (b off cap : Nat) (xs : List ByteArray) (hS : StrsS w a b off xs) (ha : a = none → cap = 0 ∧ xs = []) (hb : (xs.length + 3) * 16 ≤ 140737488355328) :
    Calls Try.prog 9 #[.slice a xs.length cap] w fun e w' => ∃ g c, e = .returned (.slice (some ⟨g, 0, none⟩) xs.length c) ∧ LentT w.heap.size w' g c xs ∧ Stay w w' := by
  obtain ⟨i0, hi, hz0, hz1, hz2⟩ := info_parts infoS
  have hc := copyTexts_any w a b off cap xs hS ha (by omega)
  clear hS ha
  go_enter Try.func9, Try.ntmps9
  go_wp2_with fail
  refine hc.mono ?_
  rintro e w1 ⟨v1, rfl, hown, hst⟩
  have HR : Hid (World.ownsRow w1 w.heap.size 9 1 v1 (xs.length + 0) (textM xs 0) ∧ Stay w w1) := ⟨hown, hst⟩
  clear hown hst hc
  go_wp2
  go_loopw [3, 4] (fun v i wr => ∃ k : Nat, k ≤ 3 ∧ i = .int .i64 k ∧ World.ownsRow wr w.heap.size 9 1 v (xs.length + k) (textM xs k) ∧ Stay w wr) (fun v i _ => 3 - (intOf i).toNat)
  case atStart => exact ⟨0, by omega, rfl, HR.out.1, HR.out.2⟩
  case round =>
    obtain ⟨k, hk, rfl, hown, hst⟩ := hrel
    by_cases hlt : k < 3
    · have hi1 : (k : Int) < 3 := by omega
      have HO2 : Hid (World.ownsRow wr w.heap.size 9 1 u3 (xs.length + k) (textM xs k) ∧ Stay w wr) := ⟨hown, hst⟩
      clear hown hst HR
      go_wp2_with (at_builtin; refine wpList_append_own _ rfl _ _ 22 rfl w.heap.size 9 i0 _ 1 16 Try.underlying22 hi hz0 hz1 hz2 rfl (by decide) u3 (xs.length + k) (textM xs k) rfl (HO2.out.1.alloc _) ⟨wr.heap.size, 0, none⟩ 1 1 [.string mkT] rfl rfl (new_cells wr [.string mkT] 9) (by simp [Value.oneCell']) (by unfold maxLen; omega) (by omega) (by rw [World.size_alloc]; have := HO2.out.2.size; omega) ?_; intro v2 w2 hown2 hg2 hn2; have HR : Hid (World.ownsRow w2 w.heap.size 9 1 v2 (xs.length + (k + 1)) (textM xs (k + 1)) ∧ Stay w w2) := ⟨by rw [textM_succ]; exact hown2, (HO2.out.2.alloc _).grown hg2 (by rw [World.size_alloc]; have := HO2.out.2.size; omega) (fun k e => (HO2.out.1.lt k e).1)⟩; clear hown2 hg2 hn2)
      go_roundw
      case rel => exact ⟨k + 1, by omega, by go_num, HR.out.1, HR.out.2⟩
      case measure => simp [intOf]; omega
    · have hi1 : ¬ (k : Int) < 3 := by omega
      obtain rfl : k = 3 := by omega
      obtain ⟨g, c, rfl⟩ := own_formK hown
      have hb1 := (rowBound hown rfl).2.1
      have hb2 : ((xs.length : Nat) : Int) ≤ (c : Int) := by omega
      have hb3 := (rowBound hown rfl).2.2
      unfold maxLen at hb3
      have HN : Hid (LentT w.heap.size wr g c xs ∧ Stay w wr) := ⟨hown, hst⟩
      clear hown hst HR
      go_wp2
      go_ret
      exact ⟨g, c, rfl, HN.out.1, HN.out.2⟩

set_option maxRecDepth 100000 in
set_option maxHeartbeats 1000000 in
theorem keptTexts_any (w : World) (g c : Nat) (a2 : Option Addr) (b2 o2 c2 base : Nat) (xs : List ByteArray) (hl : LentT base w g c xs) (hS : StrsS w a2 b2 o2 xs) :
    Calls Try.prog 12 #[.slice (some ⟨g, 0, none⟩) xs.length c, .slice a2 xs.length c2] w fun e w' => e = .returned (.bool true) ∧ Stay w w' := by
  obtain ⟨_, hb1, hb2⟩ := hl.bound
  have HI := kTexts_any w (some ⟨g, 0, none⟩) a2 g 0 b2 o2 c c2 xs hl.strs hS (by omega)
  have HM : Hid (∀ W, Stay w W → ∀ k, k < 3 → W.cell? ⟨g, xs.length + k, none⟩ = some (.string mkT)) := fun W hW k hk => (hl.stay hW).mark k hk
  unfold maxLen at hb2
  have hb3 : (xs.length : Int) + 3 ≤ (c : Int) := by omega
  have hb4 : (c : Int) ≤ 9223372036854775807 := by omega
  clear hl hS
  go_enter Try.func12, Try.ntmps12
  go_wp2_with fail
  refine HI.mono ?_
  rintro e w1 ⟨rfl, n, hn⟩
  have HS : Hid (Stay w w1) := by rw [hn]; exact Stay.drewN _ _
  clear hn HI
  go_wp2
  go_loopw [6] (fun i wr => ∃ k : Nat, k ≤ 3 ∧ i = .int .i64 k ∧ w1 = wr) (fun i _ => 3 - (intOf i).toNat)
  case atStart => exact ⟨0, by omega, rfl, rfl⟩
  case round =>
    obtain ⟨k, hk, rfl, rfl⟩ := hrel
    by_cases hlt : k < 3
    · have hi1 : (k : Int) < 3 := by omega
      have hm := HM.out w1 HS.out k hlt
      unfold mkT at hm
      have hi2 : (xs.length : Int) + (k : Int) < (xs.length : Int) + 3 := by omega
      go_wp2
      go_roundw
      case rel => exact ⟨k + 1, by omega, by go_num, by first | rfl | trivial⟩
      case measure => simp [intOf]; omega
    · have hi1 : ¬ (k : Int) < 3 := by omega
      go_wp2
      go_ret
      exact ⟨rfl, HS.out⟩
end Go.Proofs.Ytjbglpeikhpieaa
