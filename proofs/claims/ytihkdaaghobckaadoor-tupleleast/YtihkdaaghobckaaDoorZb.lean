/- inklingref02.Least. -/
import Derived.Test.YtihkdaaghobckaaDoorZa
import Derived.Test.YtihkdaaghobckaaDoorM
import Derived.Test.YtihkdaaghobckaaDoorNa
namespace Go.Proofs.YtihkdaaghobckaaDoor
open Go.RowKit Go.Maps

theorem rleast_none (w : World) (a : Option Addr) (c : Nat) : Calls Tryd.prog 26 #[.slice a 0 c] w fun e w' => e = .returned (.tuple #[.slice none 0 0, .bool false]) ∧ w' = w := by
  go_enter Tryd.func26, Tryd.ntmps26
  go_wp2
  go_ret2
  exact ⟨rfl, rfl⟩

set_option maxRecDepth 100000 in
set_option maxHeartbeats 1000000 in
theorem rleast_any (w : World) (a1 : Option Addr) (b1 o1 c1 : Nat) (T : Tup) (ts : List Tup) (hx : TupsS w a1 b1 o1 (T :: ts)) (hf : ∀ t ∈ T :: ts, t.fair) (hz : ∀ t ∈ T :: ts, t.xs.length * 8 ≤ 140737488351232) (hlx : ts.length < maxLen) :
    Calls Tryd.prog 26 #[.slice a1 (ts.length + 1) c1] w fun e w' => ∃ v, e = .returned (.tuple #[v, .bool true]) ∧ OwnI w.heap.size w' v (leastL T.xs (ts.map Tup.xs)) ∧ Stay w w' := by
  unfold maxLen at hlx
  obtain ⟨i0, hi, hz0, hz1, hz2⟩ := info_parts infoInt
  obtain rfl := hx.1 (by simp)
  have hc0 := (hx.2 0 (by simp)).1
  rw [Nat.add_zero, List.getElem_cons_zero] at hc0
  have HX : Hid ((T.ok w ∧ T ∈ T :: ts) ∧ ∀ j (h : j < ts.length), w.cell? ⟨b1, o1 + (j + 1), none⟩ = some ts[j].v ∧ ts[j].ok w ∧ ts[j] ∈ T :: ts) := by
    refine ⟨⟨(hx.2 0 (by simp)).2, by simp⟩, fun j hj => ?_⟩
    have h := hx.2 (j + 1) (by simpa using hj)
    exact ⟨by simpa using h.1, by simpa using h.2, List.mem_cons_of_mem _ (List.getElem_mem _)⟩
  have HF : Hid (∀ t ∈ T :: ts, t.fair ∧ t.xs.length * 8 ≤ 140737488351232) := fun t ht => ⟨hf t ht, hz t ht⟩
  clear hx hf hz
  unfold Tup.v at hc0
  have h4 : (((ts.length : Int) + 1) == 0) = false := by simp; omega
  have h5 : (0 : Int) < (ts.length : Int) + 1 := by omega
  have HC : Hid (∀ (W : World) (S T : Tup), S.ok W → T.ok W → Calls Tryd.prog 39 #[S.v, T.v] W fun e w' => e = .returned (.int .i64 (cmpL S.xs T.xs)) ∧ Stay W w') := fun W S T h1 h2 =>
    (rcompare_any W S.a T.a S.b S.o T.b T.o S.c T.c S.xs T.xs h1.1 h2.1 (by have := h1.2; unfold maxLen; omega) (by have := h2.2; unfold maxLen; omega)).mono (by rintro e w' ⟨rfl, n, rfl⟩; exact ⟨rfl, Stay.drewN _ _⟩)
  go_enter Tryd.func26, Tryd.ntmps26
  go_wp2
  go_loopw [4, 5] (fun v i wr => ∃ (k : Nat) (S : Tup), k ≤ ts.length ∧ i = .int .i64 ((k : Int) + 1) ∧ v = S.v ∧ S.ok w ∧ S ∈ T :: ts ∧ leastL S.xs ((ts.drop k).map Tup.xs) = leastL T.xs (ts.map Tup.xs) ∧ Stay w wr) (fun v i _ => ts.length + 1 - (intOf i).toNat)
  case atStart => exact ⟨0, T, Nat.zero_le _, rfl, rfl, HX.out.1.1, HX.out.1.2, rfl, Stay.refl _⟩
  case round =>
    obtain ⟨k, S, hk, rfl, rfl, hS, hm, hh, hst⟩ := hrel
    by_cases hlt : k < ts.length
    · have hi1 : (k : Int) + 1 < (ts.length : Int) + 1 := by omega
      have hi2 : (0 : Int) ≤ (k : Int) + 1 := by omega
      obtain ⟨hck, hok, hmu⟩ := HX.out.2 k hlt
      have hck2 := hst.cell hck
      rw [leastL_step hlt] at hh
      generalize ts[k] = U at hck hck2 hok hh hmu
      have hcmp := HC.out wr U S (hok.stay hst) (hS.stay hst)
      have HH : Hid (S.ok w ∧ S ∈ T :: ts ∧ U.ok w ∧ U ∈ T :: ts ∧ leastL (if cmpL U.xs S.xs < 0 then U.xs else S.xs) ((ts.drop (k + 1)).map Tup.xs) = leastL T.xs (ts.map Tup.xs) ∧ Stay w wr) := ⟨hS, hm, hok, hmu, hh, hst⟩
      have HK : Hid (∀ w9, Stay wr w9 → w9.cell? ⟨b1, o1 + (k + 1), none⟩ = some U.v) := fun w9 h => h.cell hck2
      clear hok hS hh hc0 hck hst hm hmu
      have hcu : U.v = .slice U.a U.xs.length U.c := rfl
      have hcs : S.v = .slice S.a S.xs.length S.c := rfl
      by_cases hneg : cmpL U.xs S.xs < 0
      · go_wp2_with (go_at_call 39; refine Calls.mono hcmp ?_; rintro e w9 ⟨rfl, hs9⟩; have hck3 := HK.out _ hs9; have HS9 : Hid (Stay wr w9) := hs9; clear hs9)
        go_roundw
        case rel => exact ⟨k + 1, U, by omega, by go_num, rfl, HH.out.2.2.1, HH.out.2.2.2.1, by have := HH.out.2.2.2.2.1; rw [if_pos hneg] at this; exact this, HH.out.2.2.2.2.2.trans HS9.out⟩
        case measure => simp [intOf]; omega
      · go_wp2_with (go_at_call 39; refine Calls.mono hcmp ?_; rintro e w9 ⟨rfl, hs9⟩; have hck3 := HK.out _ hs9; have HS9 : Hid (Stay wr w9) := hs9; clear hs9)
        go_roundw
        case rel => exact ⟨k + 1, S, by omega, by go_num, rfl, HH.out.1, HH.out.2.1, by have := HH.out.2.2.2.2.1; rw [if_neg (by omega)] at this; exact this, HH.out.2.2.2.2.2.trans HS9.out⟩
        case measure => simp [intOf]; omega
    · have hi1 : ¬ (k : Int) + 1 < (ts.length : Int) + 1 := by omega
      rw [List.drop_of_length_le (by omega)] at hh
      obtain ⟨hfair, hsz⟩ := HF.out S hm
      obtain ⟨sa, sb, so, sc, xs⟩ := S
      have HH : Hid (xs = leastL T.xs (ts.map Tup.xs) ∧ Stay w wr) := ⟨hh, hst⟩
      replace hsz : xs.length * 8 ≤ 140737488351232 := hsz
      have hI : IntsS wr sa sb so xs := (hS.stay hst).1
      dsimp only [Tup.v]
      cases sa with
      | none =>
        obtain ⟨h8, h9⟩ := hfair rfl
        replace h8 : sc = 0 := h8
        replace h9 : xs = [] := h9
        subst h8 h9
        have HQ : Hid (OwnI wr.heap.size (wr.alloc (.cells #[] 3)) (.slice (some ⟨wr.heap.size, 0, none⟩) 0 0) (leastL T.xs (ts.map Tup.xs)) ∧ Stay w (wr.alloc (.cells #[] 3)) ∧ w.heap.size ≤ wr.heap.size) := ⟨by rw [← HH.out.1]; exact own_lit0 wr, HH.out.2.trans (Stay.new _ _), HH.out.2.size⟩
        clear hh hS hm hst hfair hc0 HH hI
        go_wp2
        go_ret2
        exact ⟨_, rfl, HQ.out.1.mono HQ.out.2.2, HQ.out.2.1⟩
      | some ad =>
        obtain ⟨X, hXe⟩ : ∃ X, X = xs.map (Value.int .i64) := ⟨_, rfl⟩
        have HXS : Hid ((∀ j u, X[j]? = some u → wr.cell? (ad.add j) = some u) ∧ (∀ u ∈ X, u.oneCell' = true) ∧ X.length = xs.length ∧ X = xs.map (Value.int .i64)) := ⟨fun j u hu => by
          rw [hXe] at hu
          obtain ⟨ad', h1, h2⟩ := src_of hI (Nat.lt_of_le_of_lt (Nat.zero_le j) (List.getElem?_eq_some_iff.1 hu).1)
          obtain rfl := Option.some.inj h1
          exact h2 j u hu, by simp [hXe, Value.oneCell'], by simp [hXe], hXe⟩
        have HO := own_lit0 wr
        clear hh hS hm hst hfair hc0 hI hXe
        go_wp2_with (at_builtin; refine wpList_append_own _ rfl _ _ 22 rfl wr.heap.size 3 i0 _ 1 8 Tryd.underlying22 hi hz0 hz1 hz2 rfl (by decide) (.slice (some ⟨wr.heap.size, 0, none⟩) 0 0) 0 [] rfl HO ad xs.length sc X rfl (by rw [HXS.out.2.2.1]; simp) (fun j u h => (Stay.new wr _).cell (HXS.out.1 j u h)) HXS.out.2.1 (by unfold maxLen; omega) (by omega) (by rw [World.size_alloc]; omega) ?_; intro v1 w1 hown1 hg1 hn1; have HR : Hid (OwnI wr.heap.size w1 v1 xs ∧ Stay wr w1) := ⟨by unfold OwnI; rw [Nat.zero_add, List.nil_append, HXS.out.2.2.2] at hown1; exact hown1, (Stay.new wr _).grown hg1 (by rw [World.size_alloc]; omega) (fun k e => by simp [Value.ownBlock] at e; omega)⟩; clear hown1 hg1 hn1 HO)
        go_ret2
        exact ⟨_, rfl, by rw [← HH.out.1]; exact HR.out.1.mono HH.out.2.size, HH.out.2.trans HR.out.2⟩
end Go.Proofs.YtihkdaaghobckaaDoor
