/- TupleKinds: its walk. -/
import Derived.Test.YtpflbaniijbpaaaKH
import Derived.Deep.RegionLaw
import Derived.Deep.RegionHeld3
import Derived.Deep.DeepCutAuto
namespace Go.Proofs.Ytpflbaniijbpaaa
open Go.RowKit Go.Maps

theorem wrap32_is (x : Int) : wrap32 x = IntKind.i32.wrap x := by unfold wrap32; exact (IntKind.wrap_i32 x).symm

/-- Four lists of the first k numbers, one of each kind. -/
def Four (base : Nat) (W : World) (s u m z : Value) (xs : List Int) (k : Nat) : Prop :=
  Col base W 27 .i8 s (kinds .i8 xs k) ∧ Col base W 28 .u16 u (kinds .u16 xs k) ∧ Col base W 29 .i32 m (kinds .i32 xs k) ∧ Col base W 30 .u32 z (kinds .u32 xs k)

theorem stay_drewN_of {w w' : World} {n : Nat} (h : w' = w.drewN n) : Stay w w' := by rw [h]; exact Stay.drewN _ _
theorem five_stay {wr W : World} {p1 p2 p3 p4 : Addr} {v1 v2 v3 v4 : Value} (h : W.cell? p1 = some v1 ∧ W.cell? p2 = some v2 ∧ W.cell? p3 = some v3 ∧ W.cell? p4 = some v4 ∧ Hid (Stay wr W)) : Stay wr W := h.2.2.2.2.out
theorem hash_stay {P : Program} {f : FuncId} {args : Array Value} {w : World} {r : Ending} (h : Calls P f args w fun e w' => e = r ∧ w' = w) : Calls P f args w fun e w' => e = r ∧ Stay w w' := h.mono fun e w' ⟨h1, h2⟩ => ⟨h1, by rw [h2]; exact Stay.refl _⟩
theorem hid_drew {w W : World} (h : Hid (Stay w W)) : Hid (Stay w W.drew) := h.out.trans (Stay.drew _)
theorem five_keep {wr W W' : World} {p1 p2 p3 p4 : Addr} {v1 v2 v3 v4 : Value} (h : W.cell? p1 = some v1 ∧ W.cell? p2 = some v2 ∧ W.cell? p3 = some v3 ∧ W.cell? p4 = some v4 ∧ Hid (Stay wr W)) (hs : Stay W W') : W'.cell? p1 = some v1 ∧ W'.cell? p2 = some v2 ∧ W'.cell? p3 = some v3 ∧ W'.cell? p4 = some v4 ∧ Hid (Stay wr W') :=
  ⟨hs.cell h.1, hs.cell h.2.1, hs.cell h.2.2.1, hs.cell h.2.2.2.1, h.2.2.2.2.out.trans hs⟩
theorem kz_full (xs : List Int) (k : Nat) : ∀ j, j < 4 → kz xs k 4 j = kz xs (k + 1) 0 j
  | 0, _ => rfl
  | 1, _ => rfl
  | 2, _ => rfl
  | 3, _ => rfl
theorem zA_full (xs ys : List Int) (k k2 : Nat) : ∀ j, j < 8 → zA xs ys k 4 k2 0 j = zA xs ys (k + 1) 0 k2 0 j := fun j hj => by
  unfold zA
  split
  · exact kz_full xs k j (by omega)
  · rfl
theorem zA_full2 (xs ys : List Int) (k k2 : Nat) : ∀ j, j < 8 → zA xs ys k 0 k2 4 j = zA xs ys k 0 (k2 + 1) 0 j := fun j hj => by
  unfold zA
  split
  · rfl
  · exact kz_full ys k2 (j - 4) (by omega)
theorem zA_none (xs ys : List Int) : ∀ j, j < 8 → ([] : List Int) = zA xs ys 0 0 0 0 j
  | 0, _ => by simp [zA, kz, kinds]
  | 1, _ => by simp [zA, kz, kinds]
  | 2, _ => by simp [zA, kz, kinds]
  | 3, _ => by simp [zA, kz, kinds]
  | 4, _ => by simp [zA, kz, kinds]
  | 5, _ => by simp [zA, kz, kinds]
  | 6, _ => by simp [zA, kz, kinds]
  | 7, _ => by simp [zA, kz, kinds]
theorem four_nil (base : Nat) (W : World) (xs : List Int) : Four base W (.slice none 0 0) (.slice none 0 0) (.slice none 0 0) (.slice none 0 0) xs 0 :=
  ⟨World.ownsRow_nil _ _ _ _, World.ownsRow_nil _ _ _ _, World.ownsRow_nil _ _ _ _, World.ownsRow_nil _ _ _ _⟩

set_option maxRecDepth 100000 in
set_option maxHeartbeats 40000000 in
theorem kinds_walk (w : World) (a1 a2 : Option Addr) (b1 o1 c1 b2 o2 c2 : Nat) (xs ys : List Int) (hx : IntsS w a1 b1 o1 xs) (hy : IntsS w a2 b2 o2 ys) (hlx : xs.length * 8 ≤ 140737488351232) (hly : ys.length * 8 ≤ 140737488351232) :
    Calls Try.prog 3 #[.slice a1 xs.length c1, .slice a2 ys.length c2] w fun e w' => e = .returned (.bool true) ∧ Stay w w' := by
  obtain ⟨i1, p1, q1, r1, t1⟩ := info_parts infoInt_i8
  obtain ⟨i2, p2, q2, r2, t2⟩ := info_parts infoKu16
  obtain ⟨i3, p3, q3, r3, t3⟩ := info_parts infoInt_mine
  obtain ⟨i4, p4, q4, r4, t4⟩ := info_parts infoKu32
  have HX : Hid (IntsS w a1 b1 o1 xs ∧ IntsS w a2 b2 o2 ys) := ⟨hx, hy⟩
  clear hx hy
  have H0 := four_nil w.heap.size w xs
  go_enter Try.func3, Try.ntmps3
  go_wp2
  go_loopw [5, 7, 9, 11, 13] (fun s u m z i wr => ∃ k : Nat, k ≤ xs.length ∧ i = .int .i64 k ∧ Four w.heap.size wr s u m z xs k ∧ Stay w wr) (fun _ _ _ _ i _ => xs.length - (intOf i).toNat)
  case atStart => exact ⟨0, Nat.zero_le _, rfl, H0, Stay.refl _⟩
  case round =>
    as_aux_lemma =>
      obtain ⟨k, hk, rfl, hF, hst⟩ := hrel
      by_cases hlt : k < xs.length
      · have hi1 : (k : Int) < (xs.length : Int) := by omega
        obtain rfl := HX.out.1.1 (by omega)
        have HC : Hid (∀ W, Stay w W → W.cell? ⟨b1, o1 + k, none⟩ = some (.int .i64 xs[k])) := fun W hs => hs.cell (HX.out.1.2 k hlt)
        have hcell := HC.out wr hst
        have HE : Hid (∀ κ, kinds κ xs (k + 1) = kinds κ xs k ++ [κ.wrap xs[k]] ∧ (kinds κ xs k).length = k) := fun κ => ⟨kinds_succ κ xs k hlt, kinds_len κ xs k (by omega)⟩
        generalize xs[k] = x at hcell HE HC
        have HF0 : Hid (Four w.heap.size wr u5 u7 u9 u11 xs k ∧ Stay w wr) := ⟨hF, hst⟩
        clear hF hst H0
        go_wp2_with (first | (at_builtin; refine wpList_append_own _ rfl _ _ 23 rfl w.heap.size 27 i1 _ 1 1 Try.underlying23 p1 q1 r1 t1 rfl (by decide) u5 k ((kinds .i8 xs k).map (Value.int .i8)) rfl (by have h := HF0.out.1.1; unfold Col at h; rw [(HE.out .i8).2] at h; exact h.alloc _) ⟨wr.heap.size, 0, none⟩ 1 1 [.int .i8 (IntKind.i8.wrap x)] rfl rfl (new_cells wr [.int .i8 (IntKind.i8.wrap x)] 27) (by simp [Value.oneCell']) (by unfold maxLen; omega) (by omega) (by rw [World.size_alloc]; have := HF0.out.2.size; omega) ?_; intro v1 w1 hown hg hn; have HF1 : Hid ((Col w.heap.size w1 27 .i8 v1 (kinds .i8 xs (k + 1)) ∧ Col w.heap.size w1 28 .u16 u7 (kinds .u16 xs k) ∧ Col w.heap.size w1 29 .i32 u9 (kinds .i32 xs k) ∧ Col w.heap.size w1 30 .u32 u11 (kinds .u32 xs k)) ∧ Stay w w1) := ⟨⟨(by rw [(HE.out .i8).1]; exact Col.add (by rw [(HE.out .i8).2]; exact hown)), (HF0.out.1.2.1.other HF0.out.1.1 (by decide) hg), (HF0.out.1.2.2.1.other HF0.out.1.1 (by decide) hg), (HF0.out.1.2.2.2.other HF0.out.1.1 (by decide) hg)⟩, grow_stay HF0.out.2 HF0.out.1.1 hg⟩; have hcell1 := HC.out w1 HF1.out.2; clear hown hg hn)
                           | (at_builtin; refine wpList_append_own _ rfl _ _ 24 rfl w.heap.size 28 i2 _ 1 2 Try.underlying24 p2 q2 r2 t2 rfl (by decide) u7 k ((kinds .u16 xs k).map (Value.int .u16)) rfl (by have h := HF1.out.1.2.1; unfold Col at h; rw [(HE.out .u16).2] at h; exact h.alloc _) ⟨w1.heap.size, 0, none⟩ 1 1 [.int .u16 (IntKind.u16.wrap x)] rfl rfl (new_cells w1 [.int .u16 (IntKind.u16.wrap x)] 28) (by simp [Value.oneCell']) (by unfold maxLen; omega) (by omega) (by rw [World.size_alloc]; have := HF1.out.2.size; omega) ?_; intro v2 w2 hown hg hn; have HF2 : Hid ((Col w.heap.size w2 27 .i8 v1 (kinds .i8 xs (k + 1)) ∧ Col w.heap.size w2 28 .u16 v2 (kinds .u16 xs (k + 1)) ∧ Col w.heap.size w2 29 .i32 u9 (kinds .i32 xs k) ∧ Col w.heap.size w2 30 .u32 u11 (kinds .u32 xs k)) ∧ Stay w w2) := ⟨⟨(HF1.out.1.1.other HF1.out.1.2.1 (by decide) hg), (by rw [(HE.out .u16).1]; exact Col.add (by rw [(HE.out .u16).2]; exact hown)), (HF1.out.1.2.2.1.other HF1.out.1.2.1 (by decide) hg), (HF1.out.1.2.2.2.other HF1.out.1.2.1 (by decide) hg)⟩, grow_stay HF1.out.2 HF1.out.1.2.1 hg⟩; have hcell2 := HC.out w2 HF2.out.2; clear hown hg hn)
                           | (at_builtin; refine wpList_append_own _ rfl _ _ 25 rfl w.heap.size 29 i3 _ 1 4 Try.underlying25 p3 q3 r3 t3 rfl (by decide) u9 k ((kinds .i32 xs k).map (Value.int .i32)) rfl (by have h := HF2.out.1.2.2.1; unfold Col at h; rw [(HE.out .i32).2] at h; exact h.alloc _) ⟨w2.heap.size, 0, none⟩ 1 1 [.int .i32 (wrap32 x)] rfl rfl (new_cells w2 [.int .i32 (wrap32 x)] 29) (by simp [Value.oneCell']) (by unfold maxLen; omega) (by omega) (by rw [World.size_alloc]; have := HF2.out.2.size; omega) ?_; intro v3 w3 hown hg hn; have HF3 : Hid ((Col w.heap.size w3 27 .i8 v1 (kinds .i8 xs (k + 1)) ∧ Col w.heap.size w3 28 .u16 v2 (kinds .u16 xs (k + 1)) ∧ Col w.heap.size w3 29 .i32 v3 (kinds .i32 xs (k + 1)) ∧ Col w.heap.size w3 30 .u32 u11 (kinds .u32 xs k)) ∧ Stay w w3) := ⟨⟨(HF2.out.1.1.other HF2.out.1.2.2.1 (by decide) hg), (HF2.out.1.2.1.other HF2.out.1.2.2.1 (by decide) hg), (by rw [(HE.out .i32).1, ← wrap32_is]; exact Col.add (by rw [(HE.out .i32).2]; exact hown)), (HF2.out.1.2.2.2.other HF2.out.1.2.2.1 (by decide) hg)⟩, grow_stay HF2.out.2 HF2.out.1.2.2.1 hg⟩; have hcell3 := HC.out w3 HF3.out.2; clear hown hg hn)
                           | (at_builtin; refine wpList_append_own _ rfl _ _ 26 rfl w.heap.size 30 i4 _ 1 4 Try.underlying26 p4 q4 r4 t4 rfl (by decide) u11 k ((kinds .u32 xs k).map (Value.int .u32)) rfl (by have h := HF3.out.1.2.2.2; unfold Col at h; rw [(HE.out .u32).2] at h; exact h.alloc _) ⟨w3.heap.size, 0, none⟩ 1 1 [.int .u32 (IntKind.u32.wrap x)] rfl rfl (new_cells w3 [.int .u32 (IntKind.u32.wrap x)] 30) (by simp [Value.oneCell']) (by unfold maxLen; omega) (by omega) (by rw [World.size_alloc]; have := HF3.out.2.size; omega) ?_; intro v4 w4 hown hg hn; have HF4 : Hid ((Col w.heap.size w4 27 .i8 v1 (kinds .i8 xs (k + 1)) ∧ Col w.heap.size w4 28 .u16 v2 (kinds .u16 xs (k + 1)) ∧ Col w.heap.size w4 29 .i32 v3 (kinds .i32 xs (k + 1)) ∧ Col w.heap.size w4 30 .u32 v4 (kinds .u32 xs (k + 1))) ∧ Stay w w4) := ⟨⟨(HF3.out.1.1.other HF3.out.1.2.2.2 (by decide) hg), (HF3.out.1.2.1.other HF3.out.1.2.2.2 (by decide) hg), (HF3.out.1.2.2.1.other HF3.out.1.2.2.2 (by decide) hg), (by rw [(HE.out .u32).1]; exact Col.add (by rw [(HE.out .u32).2]; exact hown))⟩, grow_stay HF3.out.2 HF3.out.1.2.2.2 hg⟩; have hcell4 := HC.out w4 HF4.out.2; clear hown hg hn))
        go_roundw
        case rel => exact ⟨k + 1, by omega, by go_num, HF4.out.1, HF4.out.2⟩
        case measure => simp [intOf]; omega
      · have hi1 : ¬ (k : Int) < (xs.length : Int) := by omega
        obtain rfl : k = xs.length := by omega
        obtain ⟨W1, hW1⟩ : ∃ W1, W1 = wr := ⟨_, rfl⟩
        subst hW1
        have HS1 : Hid (Four w.heap.size W1 u5 u7 u9 u11 xs xs.length ∧ Stay w W1) := ⟨hF, hst⟩
        have H0b := four_nil W1.heap.size W1 ys
        clear hF hst H0
        go_wp2
        go_loopw [6, 8, 10, 12, 14] (fun s u m z i wr => ∃ k : Nat, k ≤ ys.length ∧ i = .int .i64 k ∧ Four W1.heap.size wr s u m z ys k ∧ Stay W1 wr) (fun _ _ _ _ i _ => ys.length - (intOf i).toNat)
        case atStart => exact ⟨0, Nat.zero_le _, rfl, H0b, Stay.refl _⟩
        case round =>
          as_aux_lemma =>
            obtain ⟨k, hk, rfl, hF, hst⟩ := hrel
            by_cases hlt : k < ys.length
            · have hi1 : (k : Int) < (ys.length : Int) := by omega
              obtain rfl := HX.out.2.1 (by omega)
              have HC : Hid (∀ W, Stay W1 W → W.cell? ⟨b2, o2 + k, none⟩ = some (.int .i64 ys[k])) := fun W hs => (HS1.out.2.trans hs).cell (HX.out.2.2 k hlt)
              have hcell := HC.out wr hst
              have HE : Hid (∀ κ, kinds κ ys (k + 1) = kinds κ ys k ++ [κ.wrap ys[k]] ∧ (kinds κ ys k).length = k) := fun κ => ⟨kinds_succ κ ys k hlt, kinds_len κ ys k (by omega)⟩
              generalize ys[k] = x at hcell HE HC
              have HF0 : Hid (Four W1.heap.size wr u6 u8 u10 u12 ys k ∧ Stay W1 wr) := ⟨hF, hst⟩
              clear hF hst H0b
              go_wp2_with (first | (at_builtin; refine wpList_append_own _ rfl _ _ 23 rfl W1.heap.size 27 i1 _ 1 1 Try.underlying23 p1 q1 r1 t1 rfl (by decide) u6 k ((kinds .i8 ys k).map (Value.int .i8)) rfl (by have h := HF0.out.1.1; unfold Col at h; rw [(HE.out .i8).2] at h; exact h.alloc _) ⟨wr.heap.size, 0, none⟩ 1 1 [.int .i8 (IntKind.i8.wrap x)] rfl rfl (new_cells wr [.int .i8 (IntKind.i8.wrap x)] 27) (by simp [Value.oneCell']) (by unfold maxLen; omega) (by omega) (by rw [World.size_alloc]; have := HF0.out.2.size; omega) ?_; intro v1 w1 hown hg hn; have HF1 : Hid ((Col W1.heap.size w1 27 .i8 v1 (kinds .i8 ys (k + 1)) ∧ Col W1.heap.size w1 28 .u16 u8 (kinds .u16 ys k) ∧ Col W1.heap.size w1 29 .i32 u10 (kinds .i32 ys k) ∧ Col W1.heap.size w1 30 .u32 u12 (kinds .u32 ys k)) ∧ Stay W1 w1) := ⟨⟨(by rw [(HE.out .i8).1]; exact Col.add (by rw [(HE.out .i8).2]; exact hown)), (HF0.out.1.2.1.other HF0.out.1.1 (by decide) hg), (HF0.out.1.2.2.1.other HF0.out.1.1 (by decide) hg), (HF0.out.1.2.2.2.other HF0.out.1.1 (by decide) hg)⟩, grow_stay HF0.out.2 HF0.out.1.1 hg⟩; have hcell1 := HC.out w1 HF1.out.2; clear hown hg hn)
                                 | (at_builtin; refine wpList_append_own _ rfl _ _ 24 rfl W1.heap.size 28 i2 _ 1 2 Try.underlying24 p2 q2 r2 t2 rfl (by decide) u8 k ((kinds .u16 ys k).map (Value.int .u16)) rfl (by have h := HF1.out.1.2.1; unfold Col at h; rw [(HE.out .u16).2] at h; exact h.alloc _) ⟨w1.heap.size, 0, none⟩ 1 1 [.int .u16 (IntKind.u16.wrap x)] rfl rfl (new_cells w1 [.int .u16 (IntKind.u16.wrap x)] 28) (by simp [Value.oneCell']) (by unfold maxLen; omega) (by omega) (by rw [World.size_alloc]; have := HF1.out.2.size; omega) ?_; intro v2 w2 hown hg hn; have HF2 : Hid ((Col W1.heap.size w2 27 .i8 v1 (kinds .i8 ys (k + 1)) ∧ Col W1.heap.size w2 28 .u16 v2 (kinds .u16 ys (k + 1)) ∧ Col W1.heap.size w2 29 .i32 u10 (kinds .i32 ys k) ∧ Col W1.heap.size w2 30 .u32 u12 (kinds .u32 ys k)) ∧ Stay W1 w2) := ⟨⟨(HF1.out.1.1.other HF1.out.1.2.1 (by decide) hg), (by rw [(HE.out .u16).1]; exact Col.add (by rw [(HE.out .u16).2]; exact hown)), (HF1.out.1.2.2.1.other HF1.out.1.2.1 (by decide) hg), (HF1.out.1.2.2.2.other HF1.out.1.2.1 (by decide) hg)⟩, grow_stay HF1.out.2 HF1.out.1.2.1 hg⟩; have hcell2 := HC.out w2 HF2.out.2; clear hown hg hn)
                                 | (at_builtin; refine wpList_append_own _ rfl _ _ 25 rfl W1.heap.size 29 i3 _ 1 4 Try.underlying25 p3 q3 r3 t3 rfl (by decide) u10 k ((kinds .i32 ys k).map (Value.int .i32)) rfl (by have h := HF2.out.1.2.2.1; unfold Col at h; rw [(HE.out .i32).2] at h; exact h.alloc _) ⟨w2.heap.size, 0, none⟩ 1 1 [.int .i32 (wrap32 x)] rfl rfl (new_cells w2 [.int .i32 (wrap32 x)] 29) (by simp [Value.oneCell']) (by unfold maxLen; omega) (by omega) (by rw [World.size_alloc]; have := HF2.out.2.size; omega) ?_; intro v3 w3 hown hg hn; have HF3 : Hid ((Col W1.heap.size w3 27 .i8 v1 (kinds .i8 ys (k + 1)) ∧ Col W1.heap.size w3 28 .u16 v2 (kinds .u16 ys (k + 1)) ∧ Col W1.heap.size w3 29 .i32 v3 (kinds .i32 ys (k + 1)) ∧ Col W1.heap.size w3 30 .u32 u12 (kinds .u32 ys k)) ∧ Stay W1 w3) := ⟨⟨(HF2.out.1.1.other HF2.out.1.2.2.1 (by decide) hg), (HF2.out.1.2.1.other HF2.out.1.2.2.1 (by decide) hg), (by rw [(HE.out .i32).1, ← wrap32_is]; exact Col.add (by rw [(HE.out .i32).2]; exact hown)), (HF2.out.1.2.2.2.other HF2.out.1.2.2.1 (by decide) hg)⟩, grow_stay HF2.out.2 HF2.out.1.2.2.1 hg⟩; have hcell3 := HC.out w3 HF3.out.2; clear hown hg hn)
                                 | (at_builtin; refine wpList_append_own _ rfl _ _ 26 rfl W1.heap.size 30 i4 _ 1 4 Try.underlying26 p4 q4 r4 t4 rfl (by decide) u12 k ((kinds .u32 ys k).map (Value.int .u32)) rfl (by have h := HF3.out.1.2.2.2; unfold Col at h; rw [(HE.out .u32).2] at h; exact h.alloc _) ⟨w3.heap.size, 0, none⟩ 1 1 [.int .u32 (IntKind.u32.wrap x)] rfl rfl (new_cells w3 [.int .u32 (IntKind.u32.wrap x)] 30) (by simp [Value.oneCell']) (by unfold maxLen; omega) (by omega) (by rw [World.size_alloc]; have := HF3.out.2.size; omega) ?_; intro v4 w4 hown hg hn; have HF4 : Hid ((Col W1.heap.size w4 27 .i8 v1 (kinds .i8 ys (k + 1)) ∧ Col W1.heap.size w4 28 .u16 v2 (kinds .u16 ys (k + 1)) ∧ Col W1.heap.size w4 29 .i32 v3 (kinds .i32 ys (k + 1)) ∧ Col W1.heap.size w4 30 .u32 v4 (kinds .u32 ys (k + 1))) ∧ Stay W1 w4) := ⟨⟨(HF3.out.1.1.other HF3.out.1.2.2.2 (by decide) hg), (HF3.out.1.2.1.other HF3.out.1.2.2.2 (by decide) hg), (HF3.out.1.2.2.1.other HF3.out.1.2.2.2 (by decide) hg), (by rw [(HE.out .u32).1]; exact Col.add (by rw [(HE.out .u32).2]; exact hown))⟩, grow_stay HF3.out.2 HF3.out.1.2.2.2 hg⟩; have hcell4 := HC.out w4 HF4.out.2; clear hown hg hn))
              go_roundw
              case rel => exact ⟨k + 1, by omega, by go_num, HF4.out.1, HF4.out.2⟩
              case measure => simp [intOf]; omega
            · have hi2 : ¬ (k : Int) < (ys.length : Int) := by omega
              obtain rfl : k = ys.length := by omega
              have HS2 : Hid ((Four w.heap.size wr u5 u7 u9 u11 xs xs.length ∧ Four W1.heap.size wr u6 u8 u10 u12 ys ys.length) ∧ Stay w W1 ∧ Stay W1 wr) := ⟨⟨⟨HS1.out.1.1.stay hst, HS1.out.1.2.1.stay hst, HS1.out.1.2.2.1.stay hst, HS1.out.1.2.2.2.stay hst⟩, hF⟩, HS1.out.2, hst⟩
              clear hF hst H0b HS1
              obtain ⟨q0a, q0b, q0c, e0, I0, _⟩ := HS2.out.1.1.1.ints
              rw [kinds_len _ _ _ (Nat.le_refl _)] at e0
              obtain ⟨q1a, q1b, q1c, e1, I1, _⟩ := HS2.out.1.1.2.1.ints
              rw [kinds_len _ _ _ (Nat.le_refl _)] at e1
              obtain ⟨q2a, q2b, q2c, e2, I2, _⟩ := HS2.out.1.1.2.2.1.ints
              rw [kinds_len _ _ _ (Nat.le_refl _)] at e2
              obtain ⟨q3a, q3b, q3c, e3, I3, _⟩ := HS2.out.1.1.2.2.2.ints
              rw [kinds_len _ _ _ (Nat.le_refl _)] at e3
              obtain ⟨q4a, q4b, q4c, e4, I4, _⟩ := HS2.out.1.2.1.ints
              rw [kinds_len _ _ _ (Nat.le_refl _)] at e4
              obtain ⟨q5a, q5b, q5c, e5, I5, _⟩ := HS2.out.1.2.2.1.ints
              rw [kinds_len _ _ _ (Nat.le_refl _)] at e5
              obtain ⟨q6a, q6b, q6c, e6, I6, _⟩ := HS2.out.1.2.2.2.1.ints
              rw [kinds_len _ _ _ (Nat.le_refl _)] at e6
              obtain ⟨q7a, q7b, q7c, e7, I7, _⟩ := HS2.out.1.2.2.2.2.ints
              rw [kinds_len _ _ _ (Nat.le_refl _)] at e7
              have HI : Hid (IntsK .i8 wr q0a q0b 0 (kinds .i8 xs xs.length) ∧ IntsK .u16 wr q1a q1b 0 (kinds .u16 xs xs.length) ∧ IntsK .i32 wr q2a q2b 0 (kinds .i32 xs xs.length) ∧ IntsK .u32 wr q3a q3b 0 (kinds .u32 xs xs.length) ∧ IntsK .i8 wr q4a q4b 0 (kinds .i8 ys ys.length) ∧ IntsK .u16 wr q5a q5b 0 (kinds .u16 ys ys.length) ∧ IntsK .i32 wr q6a q6b 0 (kinds .i32 ys ys.length) ∧ IntsK .u32 wr q7a q7b 0 (kinds .u32 ys ys.length) ∧ Stay w wr) := ⟨I0, I1, I2, I3, I4, I5, I6, I7, HS2.out.2.1.trans HS2.out.2.2⟩
              subst e0 e1 e2 e3 e4 e5 e6 e7
              clear HS2 I0 I1 I2 I3 I4 I5 I6 I7
              obtain ⟨i0, hi0, hz0, hz1, hz2⟩ := info_parts infoInt
              obtain ⟨W2, hW2⟩ : ∃ W2, W2 = wr := ⟨_, rfl⟩
              subst hW2
              have HE0 : Hid (∀ ty, Eight W2.heap.size (W2.alloc (.cells #[.slice none 0 0, .slice none 0 0, .slice none 0 0, .slice none 0 0, .slice none 0 0, .slice none 0 0, .slice none 0 0, .slice none 0 0] ty)) W2.heap.size (fun _ => .slice none 0 0) (fun _ => [])) := fun ty => Eight.start W2 ty
              go_wp2
              obtain ⟨B, hB⟩ : ∃ B, B = W2.heap.size := ⟨_, rfl⟩
              rw [← hB]
              have HBB : Hid (B = W2.heap.size) := hB
              clear hB
              go_loopw [16] (fun i wr => ∃ (k : Nat) (v : Nat → Value), k ≤ xs.length ∧ i = .int .i64 k ∧ Eight W2.heap.size wr B v (zA xs ys k 0 0 0) ∧ Stay W2 wr) (fun i _ => xs.length - (intOf i).toNat)
              case atStart => exact ⟨0, fun _ => .slice none 0 0, Nat.zero_le _, rfl, by rw [HBB.out]; exact (HE0.out _).congr (zA_none xs ys), Stay.new _ _⟩
              case round =>
                as_aux_lemma =>
                  obtain ⟨k, v, hk, rfl, hE, hst⟩ := hrel
                  have HEE : Hid (Eight W2.heap.size wr B v (zA xs ys k 0 0 0) ∧ Stay W2 wr) := ⟨hE, hst⟩
                  clear hE hst
                  by_cases hlt : k < xs.length
                  case pos =>
                    as_aux_lemma =>
                      have hi3 : (k : Int) < (xs.length : Int) := by omega
                      obtain ⟨y0, hy0⟩ : ∃ y, y = IntKind.i8.wrap xs[k] := ⟨_, rfl⟩
                      obtain rfl := (HI.out.1).1 (by rw [kinds_len _ _ _ (Nat.le_refl _)]; omega)
                      have SRC0 : Hid (∀ W, Stay W2 W → W.cell? ⟨q0b, k, none⟩ = some (.int .i8 y0)) := fun W hW => by have h9 := hW.cell ((HI.out.1).2 k (by rw [kinds_len _ _ _ (Nat.le_refl _)]; omega)); rw [Nat.zero_add] at h9; rw [h9, hy0]; simp [kinds]
                      have c0 : IntKind.i64.wrap y0 = y0 := by have := range_i8 xs[k]; rw [← hy0] at this; rw [IntKind.wrap_i64]; omega
                      obtain ⟨y1, hy1⟩ : ∃ y, y = IntKind.u16.wrap xs[k] := ⟨_, rfl⟩
                      obtain rfl := (HI.out.2.1).1 (by rw [kinds_len _ _ _ (Nat.le_refl _)]; omega)
                      have SRC1 : Hid (∀ W, Stay W2 W → W.cell? ⟨q1b, k, none⟩ = some (.int .u16 y1)) := fun W hW => by have h9 := hW.cell ((HI.out.2.1).2 k (by rw [kinds_len _ _ _ (Nat.le_refl _)]; omega)); rw [Nat.zero_add] at h9; rw [h9, hy1]; simp [kinds]
                      have c1 : IntKind.i64.wrap y1 = y1 := by have := range_u16 xs[k]; rw [← hy1] at this; rw [IntKind.wrap_i64]; omega
                      obtain ⟨y2, hy2⟩ : ∃ y, y = IntKind.i32.wrap xs[k] := ⟨_, rfl⟩
                      obtain rfl := (HI.out.2.2.1).1 (by rw [kinds_len _ _ _ (Nat.le_refl _)]; omega)
                      have SRC2 : Hid (∀ W, Stay W2 W → W.cell? ⟨q2b, k, none⟩ = some (.int .i32 y2)) := fun W hW => by have h9 := hW.cell ((HI.out.2.2.1).2 k (by rw [kinds_len _ _ _ (Nat.le_refl _)]; omega)); rw [Nat.zero_add] at h9; rw [h9, hy2]; simp [kinds]
                      have c2 : IntKind.i64.wrap y2 = y2 := by have := range_i32 xs[k]; rw [← hy2] at this; rw [IntKind.wrap_i64]; omega
                      obtain ⟨y3, hy3⟩ : ∃ y, y = IntKind.u32.wrap xs[k] := ⟨_, rfl⟩
                      obtain rfl := (HI.out.2.2.2.1).1 (by rw [kinds_len _ _ _ (Nat.le_refl _)]; omega)
                      have SRC3 : Hid (∀ W, Stay W2 W → W.cell? ⟨q3b, k, none⟩ = some (.int .u32 y3)) := fun W hW => by have h9 := hW.cell ((HI.out.2.2.2.1).2 k (by rw [kinds_len _ _ _ (Nat.le_refl _)]; omega)); rw [Nat.zero_add] at h9; rw [h9, hy3]; simp [kinds]
                      have c3 : IntKind.i64.wrap y3 = y3 := by have := range_u32 xs[k]; rw [← hy3] at this; rw [IntKind.wrap_i64]; omega
                      have KS : Hid ((∀ i, i < 8 → updZ (zA xs ys k 0 0 0) 0 (zA xs ys k 0 0 0 0 ++ [y0]) i = zA xs ys k 1 0 0 i) ∧ (∀ i, i < 8 → updZ (zA xs ys k 1 0 0) 1 (zA xs ys k 1 0 0 1 ++ [y1]) i = zA xs ys k 2 0 0 i) ∧ (∀ i, i < 8 → updZ (zA xs ys k 2 0 0) 2 (zA xs ys k 2 0 0 2 ++ [y2]) i = zA xs ys k 3 0 0 i) ∧ (∀ i, i < 8 → updZ (zA xs ys k 3 0 0) 3 (zA xs ys k 3 0 0 3 ++ [y3]) i = zA xs ys k 4 0 0 i) ∧ True) := ⟨zx_0 xs ys k hlt y0 hy0, zx_1 xs ys k hlt y1 hy1, zx_2 xs ys k hlt y2 hy2, zx_3 xs ys k hlt y3 hy3, trivial⟩
                      clear hy0 hy1 hy2 hy3
                      go_upto_region 23 with fail
                      go_cut [] from 94 to 139 (fun wx => ∃ v, Eight W2.heap.size wx B v (zA xs ys k 1 0 0) ∧ Stay W2 wx)
                      case first =>
                        as_aux_lemma =>
                          obtain ⟨la, lb, lc, hv, _, _⟩ := (HEE.out.1.own 0 (by decide)).ints
                          have hzl : (zA xs ys k 0 0 0 0).length = k := by show (kinds .i8 xs _).length = k; exact kinds_len _ _ _ (by first | omega | (simp; omega))
                          rw [hzl] at hv
                          have hcB := HEE.out.1.ats 0 (by decide)
                          rw [hv] at hcB
                          have hcS := (SRC0.out _ HEE.out.2)
                          have hBl := HEE.out.1.lt
                          have hSl := World.block_lt_of_cell? _ _ hcS
                          have HV : Hid (_ = Value.slice la k lc) := hv
                          have HZ : Hid ((zA xs ys k 0 0 0 0).length = k ∧ ∀ i, i < 8 → updZ (zA xs ys k 0 0 0) 0 (zA xs ys k 0 0 0 0 ++ [y0]) i = zA xs ys k 1 0 0 i) := ⟨hzl, KS.out.1⟩
                          clear hv hzl
                          go_region_law (refine step_append_own rfl (.tmp 101) (.tmp 107) 22 rfl W2.heap.size 3 i0 _ 1 8 Try.underlying22 hi0 hz0 hz1 hz2 rfl (by decide) (.slice la k lc) k ((zA xs ys k 0 0 0 0).map (Value.int .i64)) (by simp [Act.eval]) (by first | exact col_own_at (HEE.out.1.own 0 (by decide)) HV.out HZ.out.1 ((Stay.drew _).alloc _) | exact col_own_at (HEE.out.1.own 0 (by decide)) HV.out HZ.out.1 ((Stay.new _ _).trans (Stay.drew _))) ⟨wr.heap.size, 0, none⟩ 1 1 [.int .i64 y0] (by simp [Act.eval]) rfl (by exact new_cells wr [.int .i64 y0] 3) (by simp [Value.oneCell']) (by unfold maxLen; omega) (by omega) (by first | (rw [World.size_alloc]; have := HEE.out.2.size; omega) | (have := HEE.out.2.size; simp; omega)) ?_; intro v9 w9 hown hg hnil hloc; obtain ⟨g, cap, rfl, k3, k4, H3⟩ := HEE.out.1.step (by decide) HV.out HZ.out.1 (by first | exact ((Stay.new _ _).trans (Stay.drew _)) | exact ((Stay.drew _).alloc _)) hown hg hloc; clear hown hg hnil hloc)
                          all_goals
                            obtain ⟨v2, h2, h3⟩ := H3.out
                            have HF : Hid (∃ v, Eight W2.heap.size _ B v (zA xs ys k 1 0 0) ∧ Stay W2 _) := ⟨v2, h2.congr HZ.out.2, h3 _ HEE.out.2 rfl⟩
                            clear h2 h3 H3
                            go_wp2
                            go_meet
                            case rel => exact HF.out
                      case rest =>
                        as_aux_lemma =>
                          obtain ⟨v, hE, hst⟩ := hcut
                          have HEE : Hid (Eight W2.heap.size wc B v (zA xs ys k 1 0 0) ∧ Stay W2 wc) := ⟨hE, hst⟩
                          clear hE hst
                          go_upto_region 24 with fail
                          go_cut [] from 94 to 139 (fun wx => ∃ v, Eight W2.heap.size wx B v (zA xs ys k 2 0 0) ∧ Stay W2 wx)
                          case first =>
                            as_aux_lemma =>
                              obtain ⟨la, lb, lc, hv, _, _⟩ := (HEE.out.1.own 1 (by decide)).ints
                              have hzl : (zA xs ys k 1 0 0 1).length = k := by show (kinds .u16 xs _).length = k; exact kinds_len _ _ _ (by first | omega | (simp; omega))
                              rw [hzl] at hv
                              have hcB := HEE.out.1.ats 1 (by decide)
                              rw [hv] at hcB
                              have hcS := (SRC1.out _ HEE.out.2)
                              have hBl := HEE.out.1.lt
                              have hSl := World.block_lt_of_cell? _ _ hcS
                              have HV : Hid (_ = Value.slice la k lc) := hv
                              have HZ : Hid ((zA xs ys k 1 0 0 1).length = k ∧ ∀ i, i < 8 → updZ (zA xs ys k 1 0 0) 1 (zA xs ys k 1 0 0 1 ++ [y1]) i = zA xs ys k 2 0 0 i) := ⟨hzl, KS.out.2.1⟩
                              clear hv hzl
                              go_region_law (refine step_append_own rfl (.tmp 111) (.tmp 117) 22 rfl W2.heap.size 3 i0 _ 1 8 Try.underlying22 hi0 hz0 hz1 hz2 rfl (by decide) (.slice la k lc) k ((zA xs ys k 1 0 0 1).map (Value.int .i64)) (by simp [Act.eval]) (by first | exact col_own_at (HEE.out.1.own 1 (by decide)) HV.out HZ.out.1 ((Stay.drew _).alloc _) | exact col_own_at (HEE.out.1.own 1 (by decide)) HV.out HZ.out.1 ((Stay.new _ _).trans (Stay.drew _))) ⟨wc.heap.size, 0, none⟩ 1 1 [.int .i64 y1] (by simp [Act.eval]) rfl (by exact new_cells wc [.int .i64 y1] 3) (by simp [Value.oneCell']) (by unfold maxLen; omega) (by omega) (by first | (rw [World.size_alloc]; have := HEE.out.2.size; omega) | (have := HEE.out.2.size; simp; omega)) ?_; intro v9 w9 hown hg hnil hloc; obtain ⟨g, cap, rfl, k3, k4, H3⟩ := HEE.out.1.step (by decide) HV.out HZ.out.1 (by first | exact ((Stay.new _ _).trans (Stay.drew _)) | exact ((Stay.drew _).alloc _)) hown hg hloc; clear hown hg hnil hloc)
                              all_goals
                                obtain ⟨v2, h2, h3⟩ := H3.out
                                have HF : Hid (∃ v, Eight W2.heap.size _ B v (zA xs ys k 2 0 0) ∧ Stay W2 _) := ⟨v2, h2.congr HZ.out.2, h3 _ HEE.out.2 rfl⟩
                                clear h2 h3 H3
                                go_wp2
                                go_meet
                                case rel => exact HF.out
                          case rest =>
                            as_aux_lemma =>
                              obtain ⟨v, hE, hst⟩ := hcut
                              have HEE : Hid (Eight W2.heap.size wc B v (zA xs ys k 2 0 0) ∧ Stay W2 wc) := ⟨hE, hst⟩
                              clear hE hst
                              go_upto_region 25 with fail
                              go_cut [] from 94 to 139 (fun wx => ∃ v, Eight W2.heap.size wx B v (zA xs ys k 3 0 0) ∧ Stay W2 wx)
                              case first =>
                                as_aux_lemma =>
                                  obtain ⟨la, lb, lc, hv, _, _⟩ := (HEE.out.1.own 2 (by decide)).ints
                                  have hzl : (zA xs ys k 2 0 0 2).length = k := by show (kinds .i32 xs _).length = k; exact kinds_len _ _ _ (by first | omega | (simp; omega))
                                  rw [hzl] at hv
                                  have hcB := HEE.out.1.ats 2 (by decide)
                                  rw [hv] at hcB
                                  have hcS := (SRC2.out _ HEE.out.2)
                                  have hBl := HEE.out.1.lt
                                  have hSl := World.block_lt_of_cell? _ _ hcS
                                  have HV : Hid (_ = Value.slice la k lc) := hv
                                  have HZ : Hid ((zA xs ys k 2 0 0 2).length = k ∧ ∀ i, i < 8 → updZ (zA xs ys k 2 0 0) 2 (zA xs ys k 2 0 0 2 ++ [y2]) i = zA xs ys k 3 0 0 i) := ⟨hzl, KS.out.2.2.1⟩
                                  clear hv hzl
                                  go_region_law (refine step_append_own rfl (.tmp 121) (.tmp 127) 22 rfl W2.heap.size 3 i0 _ 1 8 Try.underlying22 hi0 hz0 hz1 hz2 rfl (by decide) (.slice la k lc) k ((zA xs ys k 2 0 0 2).map (Value.int .i64)) (by simp [Act.eval]) (by first | exact col_own_at (HEE.out.1.own 2 (by decide)) HV.out HZ.out.1 ((Stay.drew _).alloc _) | exact col_own_at (HEE.out.1.own 2 (by decide)) HV.out HZ.out.1 ((Stay.new _ _).trans (Stay.drew _))) ⟨wc.heap.size, 0, none⟩ 1 1 [.int .i64 y2] (by simp [Act.eval]) rfl (by exact new_cells wc [.int .i64 y2] 3) (by simp [Value.oneCell']) (by unfold maxLen; omega) (by omega) (by first | (rw [World.size_alloc]; have := HEE.out.2.size; omega) | (have := HEE.out.2.size; simp; omega)) ?_; intro v9 w9 hown hg hnil hloc; obtain ⟨g, cap, rfl, k3, k4, H3⟩ := HEE.out.1.step (by decide) HV.out HZ.out.1 (by first | exact ((Stay.new _ _).trans (Stay.drew _)) | exact ((Stay.drew _).alloc _)) hown hg hloc; clear hown hg hnil hloc)
                                  all_goals
                                    obtain ⟨v2, h2, h3⟩ := H3.out
                                    have HF : Hid (∃ v, Eight W2.heap.size _ B v (zA xs ys k 3 0 0) ∧ Stay W2 _) := ⟨v2, h2.congr HZ.out.2, h3 _ HEE.out.2 rfl⟩
                                    clear h2 h3 H3
                                    go_wp2
                                    go_meet
                                    case rel => exact HF.out
                              case rest =>
                                as_aux_lemma =>
                                  obtain ⟨v, hE, hst⟩ := hcut
                                  have HEE : Hid (Eight W2.heap.size wc B v (zA xs ys k 3 0 0) ∧ Stay W2 wc) := ⟨hE, hst⟩
                                  clear hE hst
                                  go_upto_region 26 with fail
                                  obtain ⟨la, lb, lc, hv, _, _⟩ := (HEE.out.1.own 3 (by decide)).ints
                                  have hzl : (zA xs ys k 3 0 0 3).length = k := by show (kinds .u32 xs _).length = k; exact kinds_len _ _ _ (by first | omega | (simp; omega))
                                  rw [hzl] at hv
                                  have hcB := HEE.out.1.ats 3 (by decide)
                                  rw [hv] at hcB
                                  have hcS := (SRC3.out _ HEE.out.2)
                                  have hBl := HEE.out.1.lt
                                  have hSl := World.block_lt_of_cell? _ _ hcS
                                  have HV : Hid (_ = Value.slice la k lc) := hv
                                  have HZ : Hid ((zA xs ys k 3 0 0 3).length = k ∧ ∀ i, i < 8 → updZ (zA xs ys k 3 0 0) 3 (zA xs ys k 3 0 0 3 ++ [y3]) i = zA xs ys k 4 0 0 i) := ⟨hzl, KS.out.2.2.2.1⟩
                                  clear hv hzl
                                  go_region_law (refine step_append_own rfl (.tmp 131) (.tmp 137) 22 rfl W2.heap.size 3 i0 _ 1 8 Try.underlying22 hi0 hz0 hz1 hz2 rfl (by decide) (.slice la k lc) k ((zA xs ys k 3 0 0 3).map (Value.int .i64)) (by simp [Act.eval]) (by first | exact col_own_at (HEE.out.1.own 3 (by decide)) HV.out HZ.out.1 ((Stay.drew _).alloc _) | exact col_own_at (HEE.out.1.own 3 (by decide)) HV.out HZ.out.1 ((Stay.new _ _).trans (Stay.drew _))) ⟨wc.heap.size, 0, none⟩ 1 1 [.int .i64 y3] (by simp [Act.eval]) rfl (by exact new_cells wc [.int .i64 y3] 3) (by simp [Value.oneCell']) (by unfold maxLen; omega) (by omega) (by first | (rw [World.size_alloc]; have := HEE.out.2.size; omega) | (have := HEE.out.2.size; simp; omega)) ?_; intro v9 w9 hown hg hnil hloc; obtain ⟨g, cap, rfl, k3, k4, H3⟩ := HEE.out.1.step (by decide) HV.out HZ.out.1 (by first | exact ((Stay.new _ _).trans (Stay.drew _)) | exact ((Stay.drew _).alloc _)) hown hg hloc; clear hown hg hnil hloc)
                                  all_goals
                                    as_aux_lemma =>
                                      obtain ⟨v2, h2, h3⟩ := H3.out
                                      have HL : Hid (∃ v, Eight W2.heap.size _ B v (zA xs ys (k + 1) 0 0 0) ∧ Stay W2 _) := ⟨v2, (h2.congr HZ.out.2).congr (zA_full xs ys k 0), h3 _ HEE.out.2 rfl⟩
                                      clear h2 h3 H3
                                      go_wp2
                                      go_roundw
                                      case rel =>
                                        obtain ⟨v3, h4, h5⟩ := HL.out
                                        exact ⟨k + 1, v3, by omega, by go_num, h4, h5⟩
                                      case measure => simp [intOf]; omega
                  case neg =>
                    as_aux_lemma =>
                      have hi3 : ¬ (k : Int) < (xs.length : Int) := by omega
                      obtain rfl : k = xs.length := by omega
                      go_wp2
                      have HEE0 := HEE
                      clear HEE
                      go_loopw [17] (fun i wr => ∃ (k : Nat) (v : Nat → Value), k ≤ ys.length ∧ i = .int .i64 k ∧ Eight W2.heap.size wr B v (zA xs ys xs.length 0 k 0) ∧ Stay W2 wr) (fun i _ => ys.length - (intOf i).toNat)
                      case atStart => exact ⟨0, _, Nat.zero_le _, rfl, HEE0.out.1, HEE0.out.2⟩
                      case round =>
                        as_aux_lemma =>
                          obtain ⟨k, v, hk, rfl, hE, hst⟩ := hrel
                          have HEE : Hid (Eight W2.heap.size wr B v (zA xs ys xs.length 0 k 0) ∧ Stay W2 wr) := ⟨hE, hst⟩
                          clear hE hst
                          by_cases hlt : k < ys.length
                          case pos =>
                            as_aux_lemma =>
                              have hi3 : (k : Int) < (ys.length : Int) := by omega
                              obtain ⟨y0, hy0⟩ : ∃ y, y = IntKind.i8.wrap ys[k] := ⟨_, rfl⟩
                              obtain rfl := (HI.out.2.2.2.2.1).1 (by rw [kinds_len _ _ _ (Nat.le_refl _)]; omega)
                              have SRC0 : Hid (∀ W, Stay W2 W → W.cell? ⟨q4b, k, none⟩ = some (.int .i8 y0)) := fun W hW => by have h9 := hW.cell ((HI.out.2.2.2.2.1).2 k (by rw [kinds_len _ _ _ (Nat.le_refl _)]; omega)); rw [Nat.zero_add] at h9; rw [h9, hy0]; simp [kinds]
                              have c0 : IntKind.i64.wrap y0 = y0 := by have := range_i8 ys[k]; rw [← hy0] at this; rw [IntKind.wrap_i64]; omega
                              obtain ⟨y1, hy1⟩ : ∃ y, y = IntKind.u16.wrap ys[k] := ⟨_, rfl⟩
                              obtain rfl := (HI.out.2.2.2.2.2.1).1 (by rw [kinds_len _ _ _ (Nat.le_refl _)]; omega)
                              have SRC1 : Hid (∀ W, Stay W2 W → W.cell? ⟨q5b, k, none⟩ = some (.int .u16 y1)) := fun W hW => by have h9 := hW.cell ((HI.out.2.2.2.2.2.1).2 k (by rw [kinds_len _ _ _ (Nat.le_refl _)]; omega)); rw [Nat.zero_add] at h9; rw [h9, hy1]; simp [kinds]
                              have c1 : IntKind.i64.wrap y1 = y1 := by have := range_u16 ys[k]; rw [← hy1] at this; rw [IntKind.wrap_i64]; omega
                              obtain ⟨y2, hy2⟩ : ∃ y, y = IntKind.i32.wrap ys[k] := ⟨_, rfl⟩
                              obtain rfl := (HI.out.2.2.2.2.2.2.1).1 (by rw [kinds_len _ _ _ (Nat.le_refl _)]; omega)
                              have SRC2 : Hid (∀ W, Stay W2 W → W.cell? ⟨q6b, k, none⟩ = some (.int .i32 y2)) := fun W hW => by have h9 := hW.cell ((HI.out.2.2.2.2.2.2.1).2 k (by rw [kinds_len _ _ _ (Nat.le_refl _)]; omega)); rw [Nat.zero_add] at h9; rw [h9, hy2]; simp [kinds]
                              have c2 : IntKind.i64.wrap y2 = y2 := by have := range_i32 ys[k]; rw [← hy2] at this; rw [IntKind.wrap_i64]; omega
                              obtain ⟨y3, hy3⟩ : ∃ y, y = IntKind.u32.wrap ys[k] := ⟨_, rfl⟩
                              obtain rfl := (HI.out.2.2.2.2.2.2.2.1).1 (by rw [kinds_len _ _ _ (Nat.le_refl _)]; omega)
                              have SRC3 : Hid (∀ W, Stay W2 W → W.cell? ⟨q7b, k, none⟩ = some (.int .u32 y3)) := fun W hW => by have h9 := hW.cell ((HI.out.2.2.2.2.2.2.2.1).2 k (by rw [kinds_len _ _ _ (Nat.le_refl _)]; omega)); rw [Nat.zero_add] at h9; rw [h9, hy3]; simp [kinds]
                              have c3 : IntKind.i64.wrap y3 = y3 := by have := range_u32 ys[k]; rw [← hy3] at this; rw [IntKind.wrap_i64]; omega
                              have KS : Hid ((∀ i, i < 8 → updZ (zA xs ys xs.length 0 k 0) 4 (zA xs ys xs.length 0 k 0 4 ++ [y0]) i = zA xs ys xs.length 0 k 1 i) ∧ (∀ i, i < 8 → updZ (zA xs ys xs.length 0 k 1) 5 (zA xs ys xs.length 0 k 1 5 ++ [y1]) i = zA xs ys xs.length 0 k 2 i) ∧ (∀ i, i < 8 → updZ (zA xs ys xs.length 0 k 2) 6 (zA xs ys xs.length 0 k 2 6 ++ [y2]) i = zA xs ys xs.length 0 k 3 i) ∧ (∀ i, i < 8 → updZ (zA xs ys xs.length 0 k 3) 7 (zA xs ys xs.length 0 k 3 7 ++ [y3]) i = zA xs ys xs.length 0 k 4 i) ∧ True) := ⟨zy_0 xs ys xs.length k hlt y0 hy0, zy_1 xs ys xs.length k hlt y1 hy1, zy_2 xs ys xs.length k hlt y2 hy2, zy_3 xs ys xs.length k hlt y3 hy3, trivial⟩
                              clear hy0 hy1 hy2 hy3
                              go_upto_region 30 with fail
                              go_cut [] from 140 to 185 (fun wx => ∃ v, Eight W2.heap.size wx B v (zA xs ys xs.length 0 k 1) ∧ Stay W2 wx)
                              case first =>
                                as_aux_lemma =>
                                  obtain ⟨la, lb, lc, hv, _, _⟩ := (HEE.out.1.own 4 (by decide)).ints
                                  have hzl : (zA xs ys xs.length 0 k 0 4).length = k := by show (kinds .i8 ys _).length = k; exact kinds_len _ _ _ (by first | omega | (simp; omega))
                                  rw [hzl] at hv
                                  have hcB := HEE.out.1.ats 4 (by decide)
                                  rw [hv] at hcB
                                  have hcS := (SRC0.out _ HEE.out.2)
                                  have hBl := HEE.out.1.lt
                                  have hSl := World.block_lt_of_cell? _ _ hcS
                                  have HV : Hid (_ = Value.slice la k lc) := hv
                                  have HZ : Hid ((zA xs ys xs.length 0 k 0 4).length = k ∧ ∀ i, i < 8 → updZ (zA xs ys xs.length 0 k 0) 4 (zA xs ys xs.length 0 k 0 4 ++ [y0]) i = zA xs ys xs.length 0 k 1 i) := ⟨hzl, KS.out.1⟩
                                  clear hv hzl
                                  go_region_law (refine step_append_own rfl (.tmp 147) (.tmp 153) 22 rfl W2.heap.size 3 i0 _ 1 8 Try.underlying22 hi0 hz0 hz1 hz2 rfl (by decide) (.slice la k lc) k ((zA xs ys xs.length 0 k 0 4).map (Value.int .i64)) (by simp [Act.eval]) (by first | exact col_own_at (HEE.out.1.own 4 (by decide)) HV.out HZ.out.1 ((Stay.drew _).alloc _) | exact col_own_at (HEE.out.1.own 4 (by decide)) HV.out HZ.out.1 ((Stay.new _ _).trans (Stay.drew _))) ⟨wr.heap.size, 0, none⟩ 1 1 [.int .i64 y0] (by simp [Act.eval]) rfl (by exact new_cells wr [.int .i64 y0] 3) (by simp [Value.oneCell']) (by unfold maxLen; omega) (by omega) (by first | (rw [World.size_alloc]; have := HEE.out.2.size; omega) | (have := HEE.out.2.size; simp; omega)) ?_; intro v9 w9 hown hg hnil hloc; obtain ⟨g, cap, rfl, k3, k4, H3⟩ := HEE.out.1.step (by decide) HV.out HZ.out.1 (by first | exact ((Stay.new _ _).trans (Stay.drew _)) | exact ((Stay.drew _).alloc _)) hown hg hloc; clear hown hg hnil hloc)
                                  all_goals
                                    obtain ⟨v2, h2, h3⟩ := H3.out
                                    have HF : Hid (∃ v, Eight W2.heap.size _ B v (zA xs ys xs.length 0 k 1) ∧ Stay W2 _) := ⟨v2, h2.congr HZ.out.2, h3 _ HEE.out.2 rfl⟩
                                    clear h2 h3 H3
                                    go_wp2
                                    go_meet
                                    case rel => exact HF.out
                              case rest =>
                                as_aux_lemma =>
                                  obtain ⟨v, hE, hst⟩ := hcut
                                  have HEE : Hid (Eight W2.heap.size wc B v (zA xs ys xs.length 0 k 1) ∧ Stay W2 wc) := ⟨hE, hst⟩
                                  clear hE hst
                                  go_upto_region 31 with fail
                                  go_cut [] from 140 to 185 (fun wx => ∃ v, Eight W2.heap.size wx B v (zA xs ys xs.length 0 k 2) ∧ Stay W2 wx)
                                  case first =>
                                    as_aux_lemma =>
                                      obtain ⟨la, lb, lc, hv, _, _⟩ := (HEE.out.1.own 5 (by decide)).ints
                                      have hzl : (zA xs ys xs.length 0 k 1 5).length = k := by show (kinds .u16 ys _).length = k; exact kinds_len _ _ _ (by first | omega | (simp; omega))
                                      rw [hzl] at hv
                                      have hcB := HEE.out.1.ats 5 (by decide)
                                      rw [hv] at hcB
                                      have hcS := (SRC1.out _ HEE.out.2)
                                      have hBl := HEE.out.1.lt
                                      have hSl := World.block_lt_of_cell? _ _ hcS
                                      have HV : Hid (_ = Value.slice la k lc) := hv
                                      have HZ : Hid ((zA xs ys xs.length 0 k 1 5).length = k ∧ ∀ i, i < 8 → updZ (zA xs ys xs.length 0 k 1) 5 (zA xs ys xs.length 0 k 1 5 ++ [y1]) i = zA xs ys xs.length 0 k 2 i) := ⟨hzl, KS.out.2.1⟩
                                      clear hv hzl
                                      go_region_law (refine step_append_own rfl (.tmp 157) (.tmp 163) 22 rfl W2.heap.size 3 i0 _ 1 8 Try.underlying22 hi0 hz0 hz1 hz2 rfl (by decide) (.slice la k lc) k ((zA xs ys xs.length 0 k 1 5).map (Value.int .i64)) (by simp [Act.eval]) (by first | exact col_own_at (HEE.out.1.own 5 (by decide)) HV.out HZ.out.1 ((Stay.drew _).alloc _) | exact col_own_at (HEE.out.1.own 5 (by decide)) HV.out HZ.out.1 ((Stay.new _ _).trans (Stay.drew _))) ⟨wc.heap.size, 0, none⟩ 1 1 [.int .i64 y1] (by simp [Act.eval]) rfl (by exact new_cells wc [.int .i64 y1] 3) (by simp [Value.oneCell']) (by unfold maxLen; omega) (by omega) (by first | (rw [World.size_alloc]; have := HEE.out.2.size; omega) | (have := HEE.out.2.size; simp; omega)) ?_; intro v9 w9 hown hg hnil hloc; obtain ⟨g, cap, rfl, k3, k4, H3⟩ := HEE.out.1.step (by decide) HV.out HZ.out.1 (by first | exact ((Stay.new _ _).trans (Stay.drew _)) | exact ((Stay.drew _).alloc _)) hown hg hloc; clear hown hg hnil hloc)
                                      all_goals
                                        obtain ⟨v2, h2, h3⟩ := H3.out
                                        have HF : Hid (∃ v, Eight W2.heap.size _ B v (zA xs ys xs.length 0 k 2) ∧ Stay W2 _) := ⟨v2, h2.congr HZ.out.2, h3 _ HEE.out.2 rfl⟩
                                        clear h2 h3 H3
                                        go_wp2
                                        go_meet
                                        case rel => exact HF.out
                                  case rest =>
                                    as_aux_lemma =>
                                      obtain ⟨v, hE, hst⟩ := hcut
                                      have HEE : Hid (Eight W2.heap.size wc B v (zA xs ys xs.length 0 k 2) ∧ Stay W2 wc) := ⟨hE, hst⟩
                                      clear hE hst
                                      go_upto_region 32 with fail
                                      go_cut [] from 140 to 185 (fun wx => ∃ v, Eight W2.heap.size wx B v (zA xs ys xs.length 0 k 3) ∧ Stay W2 wx)
                                      case first =>
                                        as_aux_lemma =>
                                          obtain ⟨la, lb, lc, hv, _, _⟩ := (HEE.out.1.own 6 (by decide)).ints
                                          have hzl : (zA xs ys xs.length 0 k 2 6).length = k := by show (kinds .i32 ys _).length = k; exact kinds_len _ _ _ (by first | omega | (simp; omega))
                                          rw [hzl] at hv
                                          have hcB := HEE.out.1.ats 6 (by decide)
                                          rw [hv] at hcB
                                          have hcS := (SRC2.out _ HEE.out.2)
                                          have hBl := HEE.out.1.lt
                                          have hSl := World.block_lt_of_cell? _ _ hcS
                                          have HV : Hid (_ = Value.slice la k lc) := hv
                                          have HZ : Hid ((zA xs ys xs.length 0 k 2 6).length = k ∧ ∀ i, i < 8 → updZ (zA xs ys xs.length 0 k 2) 6 (zA xs ys xs.length 0 k 2 6 ++ [y2]) i = zA xs ys xs.length 0 k 3 i) := ⟨hzl, KS.out.2.2.1⟩
                                          clear hv hzl
                                          go_region_law (refine step_append_own rfl (.tmp 167) (.tmp 173) 22 rfl W2.heap.size 3 i0 _ 1 8 Try.underlying22 hi0 hz0 hz1 hz2 rfl (by decide) (.slice la k lc) k ((zA xs ys xs.length 0 k 2 6).map (Value.int .i64)) (by simp [Act.eval]) (by first | exact col_own_at (HEE.out.1.own 6 (by decide)) HV.out HZ.out.1 ((Stay.drew _).alloc _) | exact col_own_at (HEE.out.1.own 6 (by decide)) HV.out HZ.out.1 ((Stay.new _ _).trans (Stay.drew _))) ⟨wc.heap.size, 0, none⟩ 1 1 [.int .i64 y2] (by simp [Act.eval]) rfl (by exact new_cells wc [.int .i64 y2] 3) (by simp [Value.oneCell']) (by unfold maxLen; omega) (by omega) (by first | (rw [World.size_alloc]; have := HEE.out.2.size; omega) | (have := HEE.out.2.size; simp; omega)) ?_; intro v9 w9 hown hg hnil hloc; obtain ⟨g, cap, rfl, k3, k4, H3⟩ := HEE.out.1.step (by decide) HV.out HZ.out.1 (by first | exact ((Stay.new _ _).trans (Stay.drew _)) | exact ((Stay.drew _).alloc _)) hown hg hloc; clear hown hg hnil hloc)
                                          all_goals
                                            obtain ⟨v2, h2, h3⟩ := H3.out
                                            have HF : Hid (∃ v, Eight W2.heap.size _ B v (zA xs ys xs.length 0 k 3) ∧ Stay W2 _) := ⟨v2, h2.congr HZ.out.2, h3 _ HEE.out.2 rfl⟩
                                            clear h2 h3 H3
                                            go_wp2
                                            go_meet
                                            case rel => exact HF.out
                                      case rest =>
                                        as_aux_lemma =>
                                          obtain ⟨v, hE, hst⟩ := hcut
                                          have HEE : Hid (Eight W2.heap.size wc B v (zA xs ys xs.length 0 k 3) ∧ Stay W2 wc) := ⟨hE, hst⟩
                                          clear hE hst
                                          go_upto_region 33 with fail
                                          obtain ⟨la, lb, lc, hv, _, _⟩ := (HEE.out.1.own 7 (by decide)).ints
                                          have hzl : (zA xs ys xs.length 0 k 3 7).length = k := by show (kinds .u32 ys _).length = k; exact kinds_len _ _ _ (by first | omega | (simp; omega))
                                          rw [hzl] at hv
                                          have hcB := HEE.out.1.ats 7 (by decide)
                                          rw [hv] at hcB
                                          have hcS := (SRC3.out _ HEE.out.2)
                                          have hBl := HEE.out.1.lt
                                          have hSl := World.block_lt_of_cell? _ _ hcS
                                          have HV : Hid (_ = Value.slice la k lc) := hv
                                          have HZ : Hid ((zA xs ys xs.length 0 k 3 7).length = k ∧ ∀ i, i < 8 → updZ (zA xs ys xs.length 0 k 3) 7 (zA xs ys xs.length 0 k 3 7 ++ [y3]) i = zA xs ys xs.length 0 k 4 i) := ⟨hzl, KS.out.2.2.2.1⟩
                                          clear hv hzl
                                          go_region_law (refine step_append_own rfl (.tmp 177) (.tmp 183) 22 rfl W2.heap.size 3 i0 _ 1 8 Try.underlying22 hi0 hz0 hz1 hz2 rfl (by decide) (.slice la k lc) k ((zA xs ys xs.length 0 k 3 7).map (Value.int .i64)) (by simp [Act.eval]) (by first | exact col_own_at (HEE.out.1.own 7 (by decide)) HV.out HZ.out.1 ((Stay.drew _).alloc _) | exact col_own_at (HEE.out.1.own 7 (by decide)) HV.out HZ.out.1 ((Stay.new _ _).trans (Stay.drew _))) ⟨wc.heap.size, 0, none⟩ 1 1 [.int .i64 y3] (by simp [Act.eval]) rfl (by exact new_cells wc [.int .i64 y3] 3) (by simp [Value.oneCell']) (by unfold maxLen; omega) (by omega) (by first | (rw [World.size_alloc]; have := HEE.out.2.size; omega) | (have := HEE.out.2.size; simp; omega)) ?_; intro v9 w9 hown hg hnil hloc; obtain ⟨g, cap, rfl, k3, k4, H3⟩ := HEE.out.1.step (by decide) HV.out HZ.out.1 (by first | exact ((Stay.new _ _).trans (Stay.drew _)) | exact ((Stay.drew _).alloc _)) hown hg hloc; clear hown hg hnil hloc)
                                          all_goals
                                            as_aux_lemma =>
                                              obtain ⟨v2, h2, h3⟩ := H3.out
                                              have HL : Hid (∃ v, Eight W2.heap.size _ B v (zA xs ys xs.length 0 (k + 1) 0) ∧ Stay W2 _) := ⟨v2, (h2.congr HZ.out.2).congr (zA_full2 xs ys xs.length k), h3 _ HEE.out.2 rfl⟩
                                              clear h2 h3 H3
                                              go_wp2
                                              go_roundw
                                              case rel =>
                                                obtain ⟨v3, h4, h5⟩ := HL.out
                                                exact ⟨k + 1, v3, by omega, by go_num, h4, h5⟩
                                              case measure => simp [intOf]; omega
                          case neg =>
                            as_aux_lemma =>
                              have hi3 : ¬ (k : Int) < (ys.length : Int) := by omega
                              obtain rfl : k = ys.length := by omega
                              have hnx : xs.length ≤ maxLen := by unfold maxLen; omega
                              have hny : ys.length ≤ maxLen := by unfold maxLen; omega
                              obtain ⟨X0, hX0⟩ : ∃ X, X = kinds .i8 xs xs.length := ⟨_, rfl⟩
                              have n0 : X0.length = xs.length := by rw [hX0]; exact kinds_len _ _ _ (Nat.le_refl _)
                              obtain ⟨a0, b0, d0, hv0, g0, _⟩ := (HEE.out.1.own 0 (by decide)).ints
                              have f0 : zA xs ys xs.length 0 ys.length 0 0 = X0 := by rw [hX0]; rfl
                              rw [f0] at hv0 g0
                              rw [n0] at hv0
                              have m0 := HEE.out.1.ats 0 (by decide)
                              rw [hv0] at m0
                              have s0 := (HI.out.1).stay HEE.out.2
                              rw [← hX0] at s0
                              have r0 : ∀ z ∈ X0, -9223372036854775808 ≤ z ∧ z < 9223372036854775808 := fun z hz => by rw [hX0] at hz; simp only [kinds, List.mem_map] at hz; obtain ⟨y, _, rfl⟩ := hz; exact range_i8 y
                              obtain ⟨X1, hX1⟩ : ∃ X, X = kinds .u16 xs xs.length := ⟨_, rfl⟩
                              have n1 : X1.length = xs.length := by rw [hX1]; exact kinds_len _ _ _ (Nat.le_refl _)
                              obtain ⟨a1, b1, d1, hv1, g1, _⟩ := (HEE.out.1.own 1 (by decide)).ints
                              have f1 : zA xs ys xs.length 0 ys.length 0 1 = X1 := by rw [hX1]; rfl
                              rw [f1] at hv1 g1
                              rw [n1] at hv1
                              have m1 := HEE.out.1.ats 1 (by decide)
                              rw [hv1] at m1
                              have s1 := (HI.out.2.1).stay HEE.out.2
                              rw [← hX1] at s1
                              have r1 : ∀ z ∈ X1, -9223372036854775808 ≤ z ∧ z < 9223372036854775808 := fun z hz => by rw [hX1] at hz; simp only [kinds, List.mem_map] at hz; obtain ⟨y, _, rfl⟩ := hz; exact range_u16 y
                              obtain ⟨X2, hX2⟩ : ∃ X, X = kinds .i32 xs xs.length := ⟨_, rfl⟩
                              have n2 : X2.length = xs.length := by rw [hX2]; exact kinds_len _ _ _ (Nat.le_refl _)
                              obtain ⟨a2, b2, d2, hv2, g2, _⟩ := (HEE.out.1.own 2 (by decide)).ints
                              have f2 : zA xs ys xs.length 0 ys.length 0 2 = X2 := by rw [hX2]; rfl
                              rw [f2] at hv2 g2
                              rw [n2] at hv2
                              have m2 := HEE.out.1.ats 2 (by decide)
                              rw [hv2] at m2
                              have s2 := (HI.out.2.2.1).stay HEE.out.2
                              rw [← hX2] at s2
                              have r2 : ∀ z ∈ X2, -9223372036854775808 ≤ z ∧ z < 9223372036854775808 := fun z hz => by rw [hX2] at hz; simp only [kinds, List.mem_map] at hz; obtain ⟨y, _, rfl⟩ := hz; exact range_i32 y
                              obtain ⟨X3, hX3⟩ : ∃ X, X = kinds .u32 xs xs.length := ⟨_, rfl⟩
                              have n3 : X3.length = xs.length := by rw [hX3]; exact kinds_len _ _ _ (Nat.le_refl _)
                              obtain ⟨a3, b3, d3, hv3, g3, _⟩ := (HEE.out.1.own 3 (by decide)).ints
                              have f3 : zA xs ys xs.length 0 ys.length 0 3 = X3 := by rw [hX3]; rfl
                              rw [f3] at hv3 g3
                              rw [n3] at hv3
                              have m3 := HEE.out.1.ats 3 (by decide)
                              rw [hv3] at m3
                              have s3 := (HI.out.2.2.2.1).stay HEE.out.2
                              rw [← hX3] at s3
                              have r3 : ∀ z ∈ X3, -9223372036854775808 ≤ z ∧ z < 9223372036854775808 := fun z hz => by rw [hX3] at hz; simp only [kinds, List.mem_map] at hz; obtain ⟨y, _, rfl⟩ := hz; exact range_u32 y
                              obtain ⟨X4, hX4⟩ : ∃ X, X = kinds .i8 ys ys.length := ⟨_, rfl⟩
                              have n4 : X4.length = ys.length := by rw [hX4]; exact kinds_len _ _ _ (Nat.le_refl _)
                              obtain ⟨a4, b4, d4, hv4, g4, _⟩ := (HEE.out.1.own 4 (by decide)).ints
                              have f4 : zA xs ys xs.length 0 ys.length 0 4 = X4 := by rw [hX4]; rfl
                              rw [f4] at hv4 g4
                              rw [n4] at hv4
                              have m4 := HEE.out.1.ats 4 (by decide)
                              rw [hv4] at m4
                              have s4 := (HI.out.2.2.2.2.1).stay HEE.out.2
                              rw [← hX4] at s4
                              have r4 : ∀ z ∈ X4, -9223372036854775808 ≤ z ∧ z < 9223372036854775808 := fun z hz => by rw [hX4] at hz; simp only [kinds, List.mem_map] at hz; obtain ⟨y, _, rfl⟩ := hz; exact range_i8 y
                              obtain ⟨X5, hX5⟩ : ∃ X, X = kinds .u16 ys ys.length := ⟨_, rfl⟩
                              have n5 : X5.length = ys.length := by rw [hX5]; exact kinds_len _ _ _ (Nat.le_refl _)
                              obtain ⟨a5, b5, d5, hv5, g5, _⟩ := (HEE.out.1.own 5 (by decide)).ints
                              have f5 : zA xs ys xs.length 0 ys.length 0 5 = X5 := by rw [hX5]; rfl
                              rw [f5] at hv5 g5
                              rw [n5] at hv5
                              have m5 := HEE.out.1.ats 5 (by decide)
                              rw [hv5] at m5
                              have s5 := (HI.out.2.2.2.2.2.1).stay HEE.out.2
                              rw [← hX5] at s5
                              have r5 : ∀ z ∈ X5, -9223372036854775808 ≤ z ∧ z < 9223372036854775808 := fun z hz => by rw [hX5] at hz; simp only [kinds, List.mem_map] at hz; obtain ⟨y, _, rfl⟩ := hz; exact range_u16 y
                              obtain ⟨X6, hX6⟩ : ∃ X, X = kinds .i32 ys ys.length := ⟨_, rfl⟩
                              have n6 : X6.length = ys.length := by rw [hX6]; exact kinds_len _ _ _ (Nat.le_refl _)
                              obtain ⟨a6, b6, d6, hv6, g6, _⟩ := (HEE.out.1.own 6 (by decide)).ints
                              have f6 : zA xs ys xs.length 0 ys.length 0 6 = X6 := by rw [hX6]; rfl
                              rw [f6] at hv6 g6
                              rw [n6] at hv6
                              have m6 := HEE.out.1.ats 6 (by decide)
                              rw [hv6] at m6
                              have s6 := (HI.out.2.2.2.2.2.2.1).stay HEE.out.2
                              rw [← hX6] at s6
                              have r6 : ∀ z ∈ X6, -9223372036854775808 ≤ z ∧ z < 9223372036854775808 := fun z hz => by rw [hX6] at hz; simp only [kinds, List.mem_map] at hz; obtain ⟨y, _, rfl⟩ := hz; exact range_i32 y
                              obtain ⟨X7, hX7⟩ : ∃ X, X = kinds .u32 ys ys.length := ⟨_, rfl⟩
                              have n7 : X7.length = ys.length := by rw [hX7]; exact kinds_len _ _ _ (Nat.le_refl _)
                              obtain ⟨a7, b7, d7, hv7, g7, _⟩ := (HEE.out.1.own 7 (by decide)).ints
                              have f7 : zA xs ys xs.length 0 ys.length 0 7 = X7 := by rw [hX7]; rfl
                              rw [f7] at hv7 g7
                              rw [n7] at hv7
                              have m7 := HEE.out.1.ats 7 (by decide)
                              rw [hv7] at m7
                              have s7 := (HI.out.2.2.2.2.2.2.2.1).stay HEE.out.2
                              rw [← hX7] at s7
                              have r7 : ∀ z ∈ X7, -9223372036854775808 ≤ z ∧ z < 9223372036854775808 := fun z hz => by rw [hX7] at hz; simp only [kinds, List.mem_map] at hz; obtain ⟨y, _, rfl⟩ := hz; exact range_u32 y
                              have cm0 := fun W (hW : Stay wr W) => compare_any_i8 W q0a q4a q0b 0 q4b 0 q0c q4c X0 X4 (s0.stay hW) (s4.stay hW) (by rw [n0]; exact hnx) (by rw [n4]; exact hny)
                              have rc0 := fun W (hW : Stay wr W) => rcompare_any W a0 a4 b0 0 b4 0 d0 d4 X0 X4 (IntsK.stay g0 hW) (IntsK.stay g4 hW) (by rw [n0]; exact hnx) (by rw [n4]; exact hny)
                              rw [n0, n4] at cm0 rc0
                              generalize cmpL X0 X4 = k0 at cm0 rc0
                              have kk0 : (k0 != k0) = false := by simp
                              have ha0 := fun W (hW : Stay wr W) => hash_any_i8 W q0a q0b 0 q0c X0 (s0.stay hW) (by rw [n0]; exact hnx) r0
                              have rh0 := fun W (hW : Stay wr W) => rhash_any W a0 b0 0 d0 X0 (IntsK.stay g0 hW) (by rw [n0]; exact hnx)
                              rw [n0] at ha0 rh0
                              generalize hashOf X0 = h0 at ha0 rh0
                              have hh0 : (h0 == h0) = true := by simp
                              have cm1 := fun W (hW : Stay wr W) => compare_any_u16 W q1a q5a q1b 0 q5b 0 q1c q5c X1 X5 (s1.stay hW) (s5.stay hW) (by rw [n1]; exact hnx) (by rw [n5]; exact hny)
                              have rc1 := fun W (hW : Stay wr W) => rcompare_any W a1 a5 b1 0 b5 0 d1 d5 X1 X5 (IntsK.stay g1 hW) (IntsK.stay g5 hW) (by rw [n1]; exact hnx) (by rw [n5]; exact hny)
                              rw [n1, n5] at cm1 rc1
                              generalize cmpL X1 X5 = k1 at cm1 rc1
                              have kk1 : (k1 != k1) = false := by simp
                              have ha1 := fun W (hW : Stay wr W) => hash_any_u16 W q1a q1b 0 q1c X1 (s1.stay hW) (by rw [n1]; exact hnx) r1
                              have rh1 := fun W (hW : Stay wr W) => rhash_any W a1 b1 0 d1 X1 (IntsK.stay g1 hW) (by rw [n1]; exact hnx)
                              rw [n1] at ha1 rh1
                              generalize hashOf X1 = h1 at ha1 rh1
                              have hh1 : (h1 == h1) = true := by simp
                              have cm2 := fun W (hW : Stay wr W) => compare_any_mine W q2a q6a q2b 0 q6b 0 q2c q6c X2 X6 (s2.stay hW) (s6.stay hW) (by rw [n2]; exact hnx) (by rw [n6]; exact hny)
                              have rc2 := fun W (hW : Stay wr W) => rcompare_any W a2 a6 b2 0 b6 0 d2 d6 X2 X6 (IntsK.stay g2 hW) (IntsK.stay g6 hW) (by rw [n2]; exact hnx) (by rw [n6]; exact hny)
                              rw [n2, n6] at cm2 rc2
                              generalize cmpL X2 X6 = k2 at cm2 rc2
                              have kk2 : (k2 != k2) = false := by simp
                              have ha2 := fun W (hW : Stay wr W) => hash_any_mine W q2a q2b 0 q2c X2 (s2.stay hW) (by rw [n2]; exact hnx) r2
                              have rh2 := fun W (hW : Stay wr W) => rhash_any W a2 b2 0 d2 X2 (IntsK.stay g2 hW) (by rw [n2]; exact hnx)
                              rw [n2] at ha2 rh2
                              generalize hashOf X2 = h2 at ha2 rh2
                              have hh2 : (h2 == h2) = true := by simp
                              have cm3 := fun W (hW : Stay wr W) => compare_any_u32 W q3a q7a q3b 0 q7b 0 q3c q7c X3 X7 (s3.stay hW) (s7.stay hW) (by rw [n3]; exact hnx) (by rw [n7]; exact hny)
                              have rc3 := fun W (hW : Stay wr W) => rcompare_any W a3 a7 b3 0 b7 0 d3 d7 X3 X7 (IntsK.stay g3 hW) (IntsK.stay g7 hW) (by rw [n3]; exact hnx) (by rw [n7]; exact hny)
                              rw [n3, n7] at cm3 rc3
                              generalize cmpL X3 X7 = k3 at cm3 rc3
                              have kk3 : (k3 != k3) = false := by simp
                              have ha3 := fun W (hW : Stay wr W) => hash_any_u32 W q3a q3b 0 q3c X3 (s3.stay hW) (by rw [n3]; exact hnx) r3
                              have rh3 := fun W (hW : Stay wr W) => rhash_any W a3 b3 0 d3 X3 (IntsK.stay g3 hW) (by rw [n3]; exact hnx)
                              rw [n3] at ha3 rh3
                              generalize hashOf X3 = h3 at ha3 rh3
                              have hh3 : (h3 == h3) = true := by simp
                              have eq0 := fun W (hW : Stay wr W) => equal_any_i8 W q0a q4a q0b 0 q4b 0 q0c q4c X0 X4 (s0.stay hW) (s4.stay hW) (by rw [n0]; exact hnx) (by rw [n4]; exact hny)
                              have in0 := fun W (hW : Stay wr W) => ints_any W a0 a4 b0 0 b4 0 d0 d4 X0 X4 (IntsK.stay g0 hW) (IntsK.stay g4 hW) (by rw [n0]; exact hnx) (by rw [n4]; exact hny)
                              rw [n0, n4] at eq0 in0
                              generalize decide (X0 = X4) = p0 at eq0 in0
                              have pp0 : (p0 != p0) = false := by simp
                              have eq2 := fun W (hW : Stay wr W) => equal_any_mine W q2a q6a q2b 0 q6b 0 q2c q6c X2 X6 (s2.stay hW) (s6.stay hW) (by rw [n2]; exact hnx) (by rw [n6]; exact hny)
                              have in2 := fun W (hW : Stay wr W) => ints_any W a2 a6 b2 0 b6 0 d2 d6 X2 X6 (IntsK.stay g2 hW) (IntsK.stay g6 hW) (by rw [n2]; exact hnx) (by rw [n6]; exact hny)
                              rw [n2, n6] at eq2 in2
                              generalize decide (X2 = X6) = p2 at eq2 in2
                              have pp2 : (p2 != p2) = false := by simp
                              have HM : Hid (wr.cell? ⟨B, 0, none⟩ = some (.slice a0 xs.length d0) ∧ wr.cell? ⟨B, 1, none⟩ = some (.slice a1 xs.length d1) ∧ wr.cell? ⟨B, 2, none⟩ = some (.slice a2 xs.length d2) ∧ wr.cell? ⟨B, 3, none⟩ = some (.slice a3 xs.length d3) ∧ wr.cell? ⟨B, 4, none⟩ = some (.slice a4 ys.length d4) ∧ wr.cell? ⟨B, 5, none⟩ = some (.slice a5 ys.length d5) ∧ wr.cell? ⟨B, 6, none⟩ = some (.slice a6 ys.length d6) ∧ wr.cell? ⟨B, 7, none⟩ = some (.slice a7 ys.length d7) ∧ Stay w wr ∧ B < wr.heap.size) := ⟨m0, m1, m2, m3, m4, m5, m6, m7, HI.out.2.2.2.2.2.2.2.2.trans HEE.out.2, HEE.out.1.lt⟩
                              clear HEE HI HE0 HBB hX0 n0 hv0 g0 f0 s0 r0 hX1 n1 hv1 g1 f1 s1 r1 hX2 n2 hv2 g2 f2 s2 r2 hX3 n3 hv3 g3 f3 s3 r3 hX4 n4 hv4 g4 f4 s4 r4 hX5 n5 hv5 g5 f5 s5 r5 hX6 n6 hv6 g6 f6 s6 r6 hX7 n7 hv7 g7 f7 s7 r7
                              go_wp2_with fail
                              refine wp_region_quiet_lit (by kernel_rfl) (by kernel_rfl) ?_
                              repeat (go_big_quiet_step (first | (go_at_call 4; exact Calls.quiet_of_same (cm0 _ (Stay.drewN _ _))) | (go_at_call 6; exact Calls.quiet_of_same (cm1 _ (Stay.drewN _ _))) | (go_at_call 7; exact Calls.quiet_of_same (cm2 _ (Stay.drewN _ _))) | (go_at_call 8; exact Calls.quiet_of_same (cm3 _ (Stay.drewN _ _))) | (go_at_call 5; with_reducible exact Calls.quiet_of (rc0 _ (Stay.drewN _ _))) | (go_at_call 5; with_reducible exact Calls.quiet_of (rc1 _ (Stay.drewN _ _))) | (go_at_call 5; with_reducible exact Calls.quiet_of (rc2 _ (Stay.drewN _ _))) | (go_at_call 5; with_reducible exact Calls.quiet_of (rc3 _ (Stay.drewN _ _)))))
                              refine wpQuiet_nil ?_
                              intro _ hw'
                              obtain ⟨nq, hw''⟩ := hw'
                              subst hw''
                              have HS3 : Hid (Stay wr (wr.drewN nq)) := Stay.drewN _ _
                              have M0 := (Stay.drewN wr nq).cell m0
                              have M1 := (Stay.drewN wr nq).cell m1
                              have M2 := (Stay.drewN wr nq).cell m2
                              have M3 := (Stay.drewN wr nq).cell m3
                              have M4 := (Stay.drewN wr nq).cell m4
                              have M5 := (Stay.drewN wr nq).cell m5
                              have M6 := (Stay.drewN wr nq).cell m6
                              have M7 := (Stay.drewN wr nq).cell m7
                              generalize wr.drewN nq = W3 at *
                              clear cm0 rc0 kk0 cm1 rc1 kk1 cm2 rc2 kk2 cm3 rc3 kk3 m0 m1 m2 m3 m4 m5 m6 m7
                              go_wp2_with fail
                              have hS0 := five_keep (wr := wr) ⟨M0, M4, M2, M6, HS3⟩ (Stay.drew W3)
                              go_region_held3 (fun W => W.cell? ⟨B, 0, none⟩ = some (.slice a0 xs.length d0) ∧ W.cell? ⟨B, 4, none⟩ = some (.slice a4 ys.length d4) ∧ W.cell? ⟨B, 2, none⟩ = some (.slice a2 xs.length d2) ∧ W.cell? ⟨B, 6, none⟩ = some (.slice a6 ys.length d6) ∧ Hid (Stay wr W)) (first | assumption | (exact five_keep (by assumption) (by assumption)) | (exact hid_drew (by assumption))) (first
                                | (go_at_call 9; refine (eq0 _ (five_stay (by assumption))).mono ?_; rintro e8 w8 ⟨rfl, hs8⟩)
                                | (go_at_call 10; with_reducible refine (in0 _ (five_stay (by assumption))).mono ?_; rintro e8 w8 ⟨rfl, n8, hn8⟩; have hs8 := stay_drewN_of hn8; clear hn8)
                                | (go_at_call 11; refine (eq2 _ (five_stay (by assumption))).mono ?_; rintro e8 w8 ⟨rfl, hs8⟩)
                                | (go_at_call 10; with_reducible refine (in2 _ (five_stay (by assumption))).mono ?_; rintro e8 w8 ⟨rfl, n8, hn8⟩; have hs8 := stay_drewN_of hn8; clear hn8)
                                )
                              have HS8 : Hid (Stay wr w8) := five_stay (by assumption)
                              have hS9 := five_keep (wr := wr) ⟨HM.out.1, HM.out.2.1, HM.out.2.2.1, HM.out.2.2.2.1, (Stay.refl wr : Hid (Stay wr wr))⟩ (HS8.out.trans (Stay.drew w8))
                              clear hS0 hs8 HS3 eq0 in0 pp0 eq2 in2 pp2 M0 M1 M2 M3 M4 M5 M6 M7
                              go_wp2_with fail
                              go_region_held3 (fun W => W.cell? ⟨B, 0, none⟩ = some (.slice a0 xs.length d0) ∧ W.cell? ⟨B, 1, none⟩ = some (.slice a1 xs.length d1) ∧ W.cell? ⟨B, 2, none⟩ = some (.slice a2 xs.length d2) ∧ W.cell? ⟨B, 3, none⟩ = some (.slice a3 xs.length d3) ∧ Hid (Stay wr W)) (first | assumption | (exact five_keep (by assumption) (by assumption))) (first
                                | (go_at_call 12; refine (hash_stay (ha0 _ (five_stay (by assumption)))).mono ?_; rintro e8 w9 ⟨rfl, hs9⟩)
                                | (go_at_call 13; with_reducible refine (hash_stay (rh0 _ (five_stay (by assumption)))).mono ?_; rintro e8 w9 ⟨rfl, hs9⟩)
                                | (go_at_call 14; refine (hash_stay (ha1 _ (five_stay (by assumption)))).mono ?_; rintro e8 w9 ⟨rfl, hs9⟩)
                                | (go_at_call 13; with_reducible refine (hash_stay (rh1 _ (five_stay (by assumption)))).mono ?_; rintro e8 w9 ⟨rfl, hs9⟩)
                                | (go_at_call 15; refine (hash_stay (ha2 _ (five_stay (by assumption)))).mono ?_; rintro e8 w9 ⟨rfl, hs9⟩)
                                | (go_at_call 13; with_reducible refine (hash_stay (rh2 _ (five_stay (by assumption)))).mono ?_; rintro e8 w9 ⟨rfl, hs9⟩)
                                | (go_at_call 16; refine (hash_stay (ha3 _ (five_stay (by assumption)))).mono ?_; rintro e8 w9 ⟨rfl, hs9⟩)
                                | (go_at_call 13; with_reducible refine (hash_stay (rh3 _ (five_stay (by assumption)))).mono ?_; rintro e8 w9 ⟨rfl, hs9⟩)
                                | (go_at_call 17; refine (works_any _).mono ?_; rintro e8 w9 ⟨rfl, hs9⟩)
                                )
                              have HS9 : Hid (Stay wr w9) := five_stay (by assumption)
                              clear hS9 hs9
                              go_wp2
                              go_ret
                              exact ⟨rfl, HM.out.2.2.2.2.2.2.2.2.1.trans HS9.out⟩
end Go.Proofs.Ytpflbaniijbpaaa
