/- OrderHeaps: its walk. -/
import Derived.Test.YtjbglpeikhpieaaTP
import Derived.Test.YtjbglpeikhpieaaRW
import Derived.Deep.RegionHeld3
namespace Go.Proofs.Ytjbglpeikhpieaa
open Go.RowKit Go.Maps Go.Sort
open Go.Proofs.Ytjbglpeikhpieaa.HT (E Hp foot ahd byC Fv)

/-- What is to be done, in memory. -/
def OpsS (w : World) (a : Option Addr) (b off : Nat) (ops : List ((Int × Int) × (Int × Int))) : Prop :=
  (0 < ops.length → a = some ⟨b, off, none⟩) ∧ ∀ j (h : j < ops.length), w.cell? ⟨b, off + j * 4, none⟩ = some (.int .i64 ops[j].1.1) ∧ w.cell? ⟨b, off + j * 4 + 1, none⟩ = some (.int .i64 ops[j].1.2) ∧
    w.cell? ⟨b, off + j * 4 + 2, none⟩ = some (.int .i64 ops[j].2.1) ∧ w.cell? ⟨b, off + j * 4 + 3, none⟩ = some (.int .i64 ops[j].2.2)
theorem OpsS.stay {w w' : World} {a : Option Addr} {b off : Nat} {ops : List ((Int × Int) × (Int × Int))} (h : OpsS w a b off ops) (hs : Stay w w') : OpsS w' a b off ops :=
  ⟨h.1, fun j hj => by obtain ⟨h1, h2, h3, h4⟩ := h.2 j hj; exact ⟨hs.cell h1, hs.cell h2, hs.cell h3, hs.cell h4⟩⟩

theorem alloc_at {w W : World} {o : Obj} {n : Nat} (hn : n = w.heap.size) (hs : Stay (w.alloc o) W) : W.heap[n]? = some o := by
  subst hn
  exact (hs.block _ (by simp)).trans (heap_alloc_new _ _)
theorem two_of (on : Int) : ∃ n : Nat, n < 2 ∧ (wrap64 (on.tmod 2 + 2)).tmod 2 = (n : Int) := by
  have h : (on.tmod 2).natAbs < 2 := by rw [Int.natAbs_tmod]; exact Nat.mod_lt _ (by decide)
  generalize on.tmod 2 = x at h
  have h3 : x = -1 ∨ x = 0 ∨ x = 1 := by omega
  rcases h3 with rfl | rfl | rfl
  · exact ⟨1, by decide, by decide +kernel⟩
  · exact ⟨0, by decide, by decide +kernel⟩
  · exact ⟨1, by decide, by decide +kernel⟩
theorem duo_new {w W : World} {ob rb h0 r0 h1 r1 : Nat} (hs : Stay w W) (b0 : W.heap[h0]? = some (.cells #[fvBy, .slice none 0 0, .int .i64 0] 67 (0, 0))) (b1 : W.heap[h1]? = some (.cells #[fvBy, .slice none 0 0, .int .i64 0] 67 (0, 0)))
    (e0 : W.heap[r0]? = some (.cells #[.slice none 0 0] 56 (0, 0))) (e1 : W.heap[r1]? = some (.cells #[.slice none 0 0] 56 (0, 0)))
    (c0 : W.cell? ⟨ob, 0, none⟩ = some (.pointer (some ⟨h0, 0, none⟩))) (c1 : W.cell? ⟨ob, 1, none⟩ = some (.pointer (some ⟨h1, 0, none⟩)))
    (d0 : W.cell? ⟨rb, 0, none⟩ = some (.pointer (some ⟨r0, 0, none⟩))) (d1 : W.cell? ⟨rb, 1, none⟩ = some (.pointer (some ⟨r1, 0, none⟩)))
    (f1 : w.heap.size = h0) (f2 : h1 = h0 + 1) (f3 : ob = h0 + 2) (f4 : r0 = h0 + 3) (f5 : r1 = h0 + 4) (f6 : rb = h0 + 5) (f7 : rb < W.heap.size) : Duo w W ob rb h0 r0 h1 r1 0 [] [] := by
  have hpair : ∀ hx rx, W.heap[hx]? = some (.cells #[fvBy, .slice none 0 0, .int .i64 0] 67 (0, 0)) → W.heap[rx]? = some (.cells #[.slice none 0 0] 56 (0, 0)) → hx ≠ rx → Pair W hx (.slice none 0 0) 0 rx (.slice none 0 0) [] := fun hx rx h1 h2 hne =>
    ⟨⟨[], [], ⟨h1, .inl ⟨rfl, rfl⟩, by simp [Value.ownBlock]⟩, fun k x y _ hx => by simp at hx, ⟨List.Perm.refl _, rfl, List.Pairwise.nil, fun e he => by simp at he⟩⟩, ⟨h2, OwnT.nil, by simp [Value.ownBlock]⟩,
      fun k hk hr => by
        simp [foot, rfoot, Value.ownBlock] at hk hr
        omega⟩
  refine ⟨hs, c0, c1, d0, d1, .slice none 0 0, 0, .slice none 0 0, .slice none 0 0, 0, .slice none 0 0, hpair h0 r0 b0 e0 (by omega), hpair h1 r1 b1 e1 (by omega), fun k hk hr => ?_, Nat.le_refl _, Nat.le_refl _, fun k hk => ?_, by omega, by omega, by omega⟩
  · simp [both, foot, rfoot, Value.ownBlock] at hk hr
    omega
  · simp [both, foot, rfoot, Value.ownBlock] at hk
    omega

/-- Two things nought at B9 and B11, behind w. -/
def Sees (w W : World) (B9 B11 : Nat) : Prop := Stay w W ∧ W.cell? ⟨B9, 0, none⟩ = some (.int .i64 0) ∧ W.cell? ⟨B9, 1, none⟩ = some (.int .i64 0) ∧ W.cell? ⟨B11, 0, none⟩ = some (.int .i64 0) ∧ W.cell? ⟨B11, 1, none⟩ = some (.int .i64 0)
theorem Sees.go {w W W' : World} {B9 B11 : Nat} (h : Sees w W B9 B11) (hs : Stay W W') : Sees w W' B9 B11 := ⟨h.1.trans hs, hs.cell h.2.1, hs.cell h.2.2.1, hs.cell h.2.2.2.1, hs.cell h.2.2.2.2⟩
/-- And one of 2 and 1 at B14. -/
def Sees2 (w W : World) (B9 B11 B14 : Nat) : Prop := Sees w W B9 B11 ∧ W.cell? ⟨B14, 0, none⟩ = some (.int .i64 2) ∧ W.cell? ⟨B14, 1, none⟩ = some (.int .i64 1)
theorem Sees2.go {w W W' : World} {B9 B11 B14 : Nat} (h : Sees2 w W B9 B11 B14) (hs : Stay W W') : Sees2 w W' B9 B11 B14 := ⟨h.1.go hs, hs.cell h.2.1, hs.cell h.2.2⟩
theorem new_thing (w : World) (x1 x2 : Int) : (w.alloc (.cells #[.int .i64 x1, .int .i64 x2] 33)).cell? ⟨w.heap.size, 0, none⟩ = some (.int .i64 x1) ∧ (w.alloc (.cells #[.int .i64 x1, .int .i64 x2] 33)).cell? ⟨w.heap.size, 1, none⟩ = some (.int .i64 x2) := ⟨by simp, by simp⟩
theorem sees_stay {Z W : World} {B9 B11 B14 : Nat} (h : W.cell? ⟨B9, 0, none⟩ = some (.int .i64 0) ∧ W.cell? ⟨B9, 1, none⟩ = some (.int .i64 0) ∧ W.cell? ⟨B11, 0, none⟩ = some (.int .i64 0) ∧ W.cell? ⟨B11, 1, none⟩ = some (.int .i64 0) ∧ W.cell? ⟨B14, 0, none⟩ = some (.int .i64 2) ∧ W.cell? ⟨B14, 1, none⟩ = some (.int .i64 1) ∧ Hid (Stay Z W)) : Stay Z W := h.2.2.2.2.2.2.out
theorem sees_keep {Z W W' : World} {B9 B11 B14 : Nat} (hs : Stay W W') (h : W.cell? ⟨B9, 0, none⟩ = some (.int .i64 0) ∧ W.cell? ⟨B9, 1, none⟩ = some (.int .i64 0) ∧ W.cell? ⟨B11, 0, none⟩ = some (.int .i64 0) ∧ W.cell? ⟨B11, 1, none⟩ = some (.int .i64 0) ∧ W.cell? ⟨B14, 0, none⟩ = some (.int .i64 2) ∧ W.cell? ⟨B14, 1, none⟩ = some (.int .i64 1) ∧ Hid (Stay Z W)) : W'.cell? ⟨B9, 0, none⟩ = some (.int .i64 0) ∧ W'.cell? ⟨B9, 1, none⟩ = some (.int .i64 0) ∧ W'.cell? ⟨B11, 0, none⟩ = some (.int .i64 0) ∧ W'.cell? ⟨B11, 1, none⟩ = some (.int .i64 0) ∧ W'.cell? ⟨B14, 0, none⟩ = some (.int .i64 2) ∧ W'.cell? ⟨B14, 1, none⟩ = some (.int .i64 1) ∧ Hid (Stay Z W') :=
  ⟨hs.cell h.1, hs.cell h.2.1, hs.cell h.2.2.1, hs.cell h.2.2.2.1, hs.cell h.2.2.2.2.1, hs.cell h.2.2.2.2.2.1, h.2.2.2.2.2.2.out.trans hs⟩
def lenAt (W : World) (r : Nat) : Nat := match W.cell? ⟨r, 0, none⟩ with | some (.slice _ n _) => n | _ => 0
theorem lenAt_of {W : World} {r n c : Nat} {a : Option Addr} (h : W.cell? ⟨r, 0, none⟩ = some (.slice a n c)) : lenAt W r = n := by simp [lenAt, h]

set_option maxRecDepth 100000 in
set_option maxHeartbeats 4000000 in
theorem heaps_walk (w : World) (a : Option Addr) (b off c : Nat) (ops : List ((Int × Int) × (Int × Int))) (hS : OpsS w a b off ops) (hb : (ops.length + 9) * 32 ≤ 140737488355328 + 4096) :
    Calls Try.prog 8 #[.slice a ops.length c] w fun e w' => e = .returned (.bool true) ∧ Stay w w' := by
  have HA : Hid (OpsS w a b off ops ∧ (ops.length + 9) * 32 ≤ 140737488355328 + 4096) := ⟨hS, hb⟩
  have hl60 : (ops.length : Int) ≤ 8796093022208 := by omega
  clear hS hb
  go_enter Try.func8, Try.ntmps8
  go_wp2_with fail
  refine (HT.new_any _ w).mono ?_
  rintro e w1 ⟨rfl, hw1⟩
  subst hw1
  go_wp2_with fail
  refine (HT.new_any _ _).mono ?_
  rintro e w2 ⟨rfl, hw2⟩
  subst hw2
  go_wp2_with fail
  have HD : Hid (Duo w ((((((w.alloc (.cells #[fvBy, .slice none 0 0, .int .i64 0] 67)).alloc (.cells #[fvBy, .slice none 0 0, .int .i64 0] 67)).alloc (.cells #[.pointer (some ⟨w.heap.size, 0, none⟩), .pointer (some ⟨w.heap.size + 1, 0, none⟩)] 51)).alloc (.cells #[.slice none 0 0] 56)).alloc (.cells #[.slice none 0 0] 56)).alloc (.cells #[.pointer (some ⟨w.heap.size + 1 + 1 + 1, 0, none⟩), .pointer (some ⟨w.heap.size + 1 + 1 + 1 + 1, 0, none⟩)] 54)) (w.heap.size + 1 + 1) (w.heap.size + 1 + 1 + 1 + 1 + 1) w.heap.size (w.heap.size + 1 + 1 + 1) (w.heap.size + 1) (w.heap.size + 1 + 1 + 1 + 1) 0 [] []) := by
    refine duo_new ((((((Stay.new _ _).alloc _).alloc _).alloc _).alloc _).alloc _) (alloc_at rfl ((((((Stay.refl _).alloc _).alloc _).alloc _).alloc _).alloc _)) (alloc_at (by simp) (((((Stay.refl _).alloc _).alloc _).alloc _).alloc _)) (alloc_at (by simp) (((Stay.refl _).alloc _).alloc _)) (alloc_at (by simp) ((Stay.refl _).alloc _)) ?_ ?_ ?_ ?_ rfl rfl rfl rfl rfl rfl (by simp)
    · simp only [World.cell?, alloc_at (w := (w.alloc _).alloc _) (n := w.heap.size + 1 + 1) (by simp) ((((Stay.refl _).alloc _).alloc _).alloc _)]; rfl
    · simp only [World.cell?, alloc_at (w := (w.alloc _).alloc _) (n := w.heap.size + 1 + 1) (by simp) ((((Stay.refl _).alloc _).alloc _).alloc _)]; rfl
    · simp only [World.cell?, alloc_at (w := ((((w.alloc _).alloc _).alloc _).alloc _).alloc _) (n := w.heap.size + 1 + 1 + 1 + 1 + 1) (by simp) (Stay.refl _)]; rfl
    · simp only [World.cell?, alloc_at (w := ((((w.alloc _).alloc _).alloc _).alloc _).alloc _) (n := w.heap.size + 1 + 1 + 1 + 1 + 1) (by simp) (Stay.refl _)]; rfl
  unfold fvBy at HD
  generalize ((((((w.alloc (.cells #[.func (.func 18) #[] #[], .slice none 0 0, .int .i64 0] 67)).alloc (.cells #[.func (.func 18) #[] #[], .slice none 0 0, .int .i64 0] 67)).alloc (.cells #[.pointer (some ⟨w.heap.size, 0, none⟩), .pointer (some ⟨w.heap.size + 1, 0, none⟩)] 51)).alloc (.cells #[.slice none 0 0] 56)).alloc (.cells #[.slice none 0 0] 56)).alloc (.cells #[.pointer (some ⟨w.heap.size + 1 + 1 + 1, 0, none⟩), .pointer (some ⟨w.heap.size + 1 + 1 + 1 + 1, 0, none⟩)] 54)) = W at HD ⊢
  generalize w.heap.size + 1 + 1 + 1 + 1 + 1 = rb at HD ⊢
  generalize w.heap.size + 1 + 1 + 1 + 1 = r1 at HD ⊢
  generalize w.heap.size + 1 + 1 + 1 = r0 at HD ⊢
  generalize w.heap.size + 1 + 1 = ob at HD ⊢
  generalize w.heap.size + 1 = h1 at HD ⊢
  generalize w.heap.size = h0 at HD ⊢
  go_loopw [5] (fun vi wr => ∃ (k : Nat) (L0 L1 : List (Int × Int)), k ≤ ops.length ∧ vi = .int .i64 k ∧ Duo w wr ob rb h0 r0 h1 r1 k L0 L1 ∧ L0.length ≤ k ∧ L1.length ≤ k) (fun vi _ => ops.length - (intOf vi).toNat)
  case atStart => exact ⟨0, [], [], Nat.zero_le _, rfl, HD.out, Nat.le_refl _, Nat.le_refl _⟩
  case round =>
    obtain ⟨k, L0, L1, hk, rfl, hD, hl0, hl1⟩ := hrel
    have HW : Hid (Duo w wr ob rb h0 r0 h1 r1 k L0 L1 ∧ L0.length ≤ k ∧ L1.length ≤ k) := ⟨hD, hl0, hl1⟩
    clear HD
    by_cases hlt : k < ops.length
    · have hi1 : (k : Int) < (ops.length : Int) := by omega
      obtain ⟨s0, s1, s2, s3⟩ := (HA.out.1.stay hD.stay).2 k hlt
      obtain rfl := HA.out.1.1 (by omega)
      have HB : Hid (b < w.heap.size) := World.block_lt_of_cell? w _ (HA.out.1.2 k hlt).1
      generalize ops[k] = o at s0 s1 s2 s3
      obtain ⟨⟨kind, on⟩, t1, t2⟩ := o
      dsimp only at s0 s1 s2 s3
      clear hD hl0 hl1
      obtain ⟨n, hn2, hn⟩ := two_of on
      have HD2 := HW.out.1.go (Stay.drew wr)
      obtain ⟨hx, rx, Lx, hy, ry, Ly, x0, x1, hT, hlen, hback⟩ := HD2.pick n hn2
      have hl : Lx.length ≤ k ∧ Ly.length ≤ k := by rw [hlen.1, hlen.2]; split <;> exact ⟨by have := HW.out.2; omega, by have := HW.out.2; omega⟩
      have hdo : Calls Try.prog 39 #[.pointer (some ⟨hx, 0, none⟩), .pointer (some ⟨rx, 0, none⟩), .agg #[.int .i64 kind, .int .i64 on, .int .i64 t1, .int .i64 t2]] wr.drew fun e w2 => e = .returned (.bool true) ∧ (w2.cell? ⟨ob, n, none⟩ = some (.pointer (some ⟨hx, 0, none⟩)) ∧ w2.cell? ⟨rb, n, none⟩ = some (.pointer (some ⟨rx, 0, none⟩)) ∧ w2.cell? ⟨b, off + k * 4, none⟩ = some (.int .i64 kind) ∧ w2.cell? ⟨b, off + k * 4 + 1, none⟩ = some (.int .i64 on) ∧ w2.cell? ⟨b, off + k * 4 + 2, none⟩ = some (.int .i64 t1) ∧ w2.cell? ⟨b, off + k * 4 + 3, none⟩ = some (.int .i64 t2)) ∧ Hid (∃ L0 L1, Duo w w2 ob rb h0 r0 h1 r1 (k + 1) L0 L1 ∧ L0.length ≤ k + 1 ∧ L1.length ≤ k + 1) := by
        refine (twin_does hT kind on t1 t2 (by have := HA.out.2; omega) (by have := HA.out.2; omega)).mono ?_
        rintro e w2 ⟨rfl, L', hT', hl', ht⟩
        have hD2 := hback w2 _ L' ht hT'
        have m1 : ¬ May w.heap.size ob rb ob := fun hM => hM.2.1 rfl
        have m2 : ¬ May w.heap.size ob rb rb := fun hM => hM.2.2 rfl
        have mb : ¬ May w.heap.size ob rb b := fun hM => by have := hM.1; have := HB.out; omega
        refine ⟨rfl, ⟨ht.cell x0 m1, ht.cell x1 m2, ht.cell s0 mb, ht.cell s1 mb, ht.cell s2 mb, ht.cell s3 mb⟩, _, _, hD2, ?_, ?_⟩
        · have := HW.out.2; split <;> omega
        · have := HW.out.2; split <;> omega
      have x0' : wr.cell? ⟨ob, n, none⟩ = some (.pointer (some ⟨hx, 0, none⟩)) := x0
      have x1' : wr.cell? ⟨rb, n, none⟩ = some (.pointer (some ⟨rx, 0, none⟩)) := x1
      have hn2' : (n : Int) < 2 := by omega
      clear HD2 x0 x1 hT hlen hback hl hn2
      go_wp2_with fail
      clear hn
      go_region_held3 (fun W => W.cell? ⟨ob, n, none⟩ = some (.pointer (some ⟨hx, 0, none⟩)) ∧ W.cell? ⟨rb, n, none⟩ = some (.pointer (some ⟨rx, 0, none⟩)) ∧ W.cell? ⟨b, off + k * 4, none⟩ = some (.int .i64 kind) ∧ W.cell? ⟨b, off + k * 4 + 1, none⟩ = some (.int .i64 on) ∧ W.cell? ⟨b, off + k * 4 + 2, none⟩ = some (.int .i64 t1) ∧ W.cell? ⟨b, off + k * 4 + 3, none⟩ = some (.int .i64 t2)) (first | assumption | go_keep) (first | (go_at_call 39; refine hdo.mono ?_; rintro e9 w9 ⟨rfl, hcc, HDD⟩))
      clear hdo hcc x0' x1' s0 s1 s2 s3
      go_wp2
      go_roundw
      case rel =>
        obtain ⟨L0', L1', q1, q2, q3⟩ := HDD.out
        exact ⟨k + 1, L0', L1', by omega, by go_num, q1, q2, q3⟩
      case measure => simp [intOf]; omega
    · have hi1 : ¬ (k : Int) < (ops.length : Int) := by omega
      have HW2 : Hid (Duo w wr ob rb h0 r0 h1 r1 k L0 L1 ∧ L0.length ≤ ops.length ∧ L1.length ≤ ops.length) := ⟨hD, by omega, by omega⟩
      clear hD hl0 hl1 HW
      go_wp2_with fail
      go_loopw [7] (fun vi wr => ∃ (n i : Nat) (L0 L1 : List (Int × Int)), n ≤ 2 ∧ vi = .int .i64 n ∧ Duo w wr ob rb h0 r0 h1 r1 i L0 L1 ∧ L0.length ≤ ops.length ∧ L1.length ≤ ops.length) (fun vi _ => 2 - (intOf vi).toNat)
      case atStart => exact ⟨0, _, L0, L1, Nat.zero_le _, rfl, HW2.out⟩
      case round =>
        obtain ⟨n, i, K0, K1, hn, rfl, hD, hl0, hl1⟩ := hrel
        clear HW2
        by_cases hlt2 : n < 2
        · have hn2 : (n : Int) < 2 := by omega
          obtain ⟨hx, rx, Lx, hy, ry, Ly, x0, x1, hT, hlen, hback⟩ := hD.pick n hlt2
          have hl : Lx.length ≤ ops.length ∧ Ly.length ≤ ops.length := by rw [hlen.1, hlen.2]; split <;> exact ⟨by omega, by omega⟩
          have HM : Hid ((wr.cell? ⟨ob, n, none⟩ = some (.pointer (some ⟨hx, 0, none⟩)) ∧ wr.cell? ⟨rb, n, none⟩ = some (.pointer (some ⟨rx, 0, none⟩))) ∧ Twin w.heap.size ob rb wr i hx rx Lx hy ry Ly ∧ Lx.length ≤ ops.length) := ⟨⟨x0, x1⟩, hT, hl.1⟩
          have HK : Hid (∀ W' i' Lx', Turn (May w.heap.size ob rb) wr W' → Twin w.heap.size ob rb W' i' hx rx Lx' hy ry Ly → Lx'.length ≤ ops.length → ∃ (L0 L1 : List (Int × Int)), Duo w W' ob rb h0 r0 h1 r1 i' L0 L1 ∧ L0.length ≤ ops.length ∧ L1.length ≤ ops.length) :=
            fun W' i' Lx' ht hT' hlx => ⟨_, _, hback W' i' Lx' ht hT', by split <;> omega, by split <;> omega⟩
          clear x0 x1 hT hlen hback hl hD hl0 hl1
          go_wp2_with fail
          go_loopw [66] (fun _ wx => ∃ (i : Nat) (Lx : List (Int × Int)), Twin w.heap.size ob rb wx i hx rx Lx hy ry Ly ∧ Turn (May w.heap.size ob rb) wr wx ∧ Lx.length ≤ ops.length) (fun _ wx => lenAt wx rx)
          case atStart => exact ⟨_, Lx, HM.out.2.1, Turn.refl _ _, HM.out.2.2⟩
          case round =>
            obtain ⟨i2, Mx, hT, ht, hl⟩ := hrel
            obtain ⟨va, vc, k0, k1⟩ := hT.list
            have x0 := ht.cell HM.out.1.1 (fun hM => hM.2.1 rfl)
            have x1 := ht.cell HM.out.1.2 (fun hM => hM.2.2 rfl)
            have HL : Hid (lenAt wr rx = Mx.length) := lenAt_of k0
            have HT2 : Hid (Twin w.heap.size ob rb wr i2 hx rx Mx hy ry Ly ∧ Mx.length ≤ ops.length) := ⟨hT, hl⟩
            have hsz : (Mx.length + 1) * 24 ≤ 140737488355328 := by have := HA.out.2; omega
            have hdo : Calls Try.prog 39 #[.pointer (some ⟨hx, 0, none⟩), .pointer (some ⟨rx, 0, none⟩), .agg #[.int .i64 4, .int .i64 0, .int .i64 0, .int .i64 0]] wr.drew fun e w2 => e = .returned (.bool true) ∧ (w2.cell? ⟨ob, n, none⟩ = some (.pointer (some ⟨hx, 0, none⟩)) ∧ w2.cell? ⟨rb, n, none⟩ = some (.pointer (some ⟨rx, 0, none⟩))) ∧ Hid (∃ Lx', Twin w.heap.size ob rb w2 (i2 + 1) hx rx Lx' hy ry Ly ∧ Lx'.length = Mx.length - 1 ∧ Turn (May w.heap.size ob rb) wr w2) ∧ (Mx.length = 0 → Calls Try.prog 40 #[.pointer (some ⟨hx, 0, none⟩)] w2 fun e w' => e = .returned (.int .i64 0) ∧ w' = w2) := by
              refine (twin_pop (hT.stay (Stay.drew wr)) hsz).mono ?_
              rintro e w2 ⟨rfl, L', hT', hl', ht'⟩
              have ht2 : Turn (May w.heap.size ob rb) wr w2 := (Turn.of_stay (Stay.drew wr)).trans ht'
              refine ⟨rfl, ⟨ht2.cell x0 (fun hM => hM.2.1 rfl), ht2.cell x1 (fun hM => hM.2.2 rfl)⟩, ⟨L', hT', hl', ht2⟩, fun h0 => ?_⟩
              have h9 := hT'.len
              rw [hl', h0] at h9
              exact h9
            have HTu : Hid (∀ W, Turn (May w.heap.size ob rb) wr W → Turn (May w.heap.size ob rb) _ W) := fun W h => ht.trans h
            clear hT ht hsz
            by_cases hp : 0 < Mx.length
            · have hp1 : (0 : Int) < (Mx.length : Int) := by omega
              clear hl
              go_wp2_with fail
              go_region_held3 (fun W => W.cell? ⟨ob, n, none⟩ = some (.pointer (some ⟨hx, 0, none⟩)) ∧ W.cell? ⟨rb, n, none⟩ = some (.pointer (some ⟨rx, 0, none⟩))) (first | assumption | go_keep) (first | (go_at_call 39; refine hdo.mono ?_; rintro e9 w9 ⟨rfl, hcc, HDD, _⟩))
              clear hdo hcc x0 x1 k0 k1
              go_wp2
              go_roundw
              case rel =>
                obtain ⟨L', q1, q2, q3⟩ := HDD.out
                exact ⟨_, L', q1, HTu.out _ q3, by have := HT2.out.2; omega⟩
              case measure =>
                obtain ⟨L', q1, q2, q3⟩ := HDD.out
                obtain ⟨a', c', q4, _⟩ := q1.list
                have e1 := lenAt_of q4
                have e2 := HL.out
                omega
            · have hp1 : ¬ (0 : Int) < (Mx.length : Int) := by omega
              have HZ : Hid (Mx.length = 0) := by show Mx.length = 0; omega
              clear hl hp
              go_wp2_with fail
              go_region_held3 (fun W => W.cell? ⟨ob, n, none⟩ = some (.pointer (some ⟨hx, 0, none⟩)) ∧ W.cell? ⟨rb, n, none⟩ = some (.pointer (some ⟨rx, 0, none⟩))) (first | assumption | go_keep) (first | (go_at_call 39; refine hdo.mono ?_; rintro e9 w9 ⟨rfl, hcc, HDD, hLn'⟩; have hLn := hLn' HZ.out; clear hLn') | (go_at_call 40; refine hLn.mono ?_; rintro e8 w8 ⟨rfl, hw8⟩; have hw8' := hw8.symm; subst hw8'; clear hw8))
              clear hdo hcc x0 x1 k0 k1
              go_wp2
              go_roundw
              case rel =>
                obtain ⟨L', q1, q2, q3⟩ := HDD.out
                obtain ⟨J0, J1, q4, q5, q6⟩ := HK.out _ _ L' (HTu.out _ q3) q1 (by have := HT2.out.2; omega)
                exact ⟨n + 1, _, J0, J1, by omega, by go_num, q4, q5, q6⟩
              case measure => simp [intOf]; omega
        · have hn2 : ¬ (n : Int) < 2 := by omega
          have S0 : Hid (Stay w wr) := hD.stay
          clear hD hl0 hl1
          go_wp2_with fail
          refine (thing_any 1 1 _).mono ?_
          rintro e w1 ⟨rfl, hs⟩
          have S1 : Hid (Stay w w1) := S0.out.trans hs
          clear hs S0
          go_wp2_with fail
          refine (nil_push _ 1 1).mono ?_
          rintro e w2 ⟨rfl, hs⟩
          have S2 : Hid (Stay w w2) := S1.out.trans hs
          clear hs S1
          go_wp2_with fail
          refine (nil_pop _).mono ?_
          rintro e w3 ⟨rfl, hs⟩
          have S3 : Hid (Stay w w3) := S2.out.trans hs
          clear hs S2
          go_wp2_with fail
          refine (nil_peek _).mono ?_
          rintro e w4 ⟨rfl, hs⟩
          have H4 : Hid (Stay w w4 ∧ w4.cell? ⟨w3.heap.size, 0, none⟩ = some (.int .i64 0) ∧ w4.cell? ⟨w3.heap.size, 1, none⟩ = some (.int .i64 0)) := ⟨(S3.out.alloc _).trans hs, hs.cell (by simp), hs.cell (by simp)⟩
          generalize w3.heap.size = B9 at H4 ⊢
          clear hs S3
          go_wp2_with fail
          refine (thing_any 2 1 _).mono ?_
          rintro e w5 ⟨rfl, hs⟩
          have H5 : Hid (Sees w w5 B9 w4.heap.size ∧ HT.Held HT.noC (w4.alloc (.cells #[.int .i64 0, .int .i64 0] 33)) w5 (w4.heap.size + 1) .nilFunc (.slice none 0 0) 0 [] ∧ Sees w (w4.alloc (.cells #[.int .i64 0, .int .i64 0] 33)) B9 w4.heap.size) := by
            have hX : Sees w (w4.alloc (.cells #[.int .i64 0, .int .i64 0] 33)) B9 w4.heap.size := ⟨H4.out.1.alloc _, (Stay.new _ _).cell H4.out.2.1, (Stay.new _ _).cell H4.out.2.2, by simp, by simp⟩
            have hH := HT.held_new (cf := HT.noC) .nilFunc (w4.alloc (.cells #[.int .i64 0, .int .i64 0] 33))
            have hsz : (w4.alloc (.cells #[.int .i64 0, .int .i64 0] 33)).heap.size = w4.heap.size + 1 := by simp
            rw [hsz] at hH
            exact ⟨(hX.go (Stay.new _ _)).go hs, hH.go hs, hX⟩
          generalize w4.alloc (.cells #[.int .i64 0, .int .i64 0] 33) = X at H5
          generalize w4.heap.size + 1 = hz at H5 ⊢
          generalize w4.heap.size = B11 at H5 ⊢
          clear hs H4
          go_wp2_with fail
          refine (H5.out.2.1.push fvNo (2, 1) (by decide) (by decide)).mono ?_
          rintro e w6 ⟨rfl, v6, c6, hp, h6⟩
          have H6 : Hid (c6.Perm [((2, 1), 0)] ∧ HT.Held HT.noC X w6 hz .nilFunc v6 1 c6 ∧ Sees w X B9 B11) := ⟨hp, h6, H5.out.2.2⟩
          clear hp h6 H5
          go_wp2_with fail
          refine (thing_any 1 2 _).mono ?_
          rintro e w7 ⟨rfl, hs⟩
          have H7 : Hid (c6.Perm [((2, 1), 0)] ∧ HT.Held HT.noC X w7 hz .nilFunc v6 1 c6 ∧ Sees w X B9 B11) := ⟨H6.out.1, H6.out.2.1.go hs, H6.out.2.2⟩
          clear hs H6
          go_wp2_with fail
          refine (H7.out.2.1.push fvNo (1, 2) (by rw [H7.out.1.length_eq]; decide) (by decide)).mono ?_
          rintro e w8 ⟨rfl, v8, c8, hp, h8⟩
          have H8 : Hid (c8.Perm [((2, 1), 0), ((1, 2), 1)] ∧ HT.Held HT.noC X w8 hz .nilFunc v8 2 c8 ∧ Sees w X B9 B11) := ⟨hp.trans (H7.out.1.append (List.Perm.refl _)), h8, H7.out.2.2⟩
          clear hp h8 H7
          obtain ⟨e9, he9⟩ : ∃ e9, c8[0]? = some e9 := ⟨_, List.getElem?_eq_getElem (by rw [H8.out.1.length_eq]; decide)⟩
          obtain rfl := zero_first H8.out.1 H8.out.2.1.heap he9
          have hpop := H8.out.2.1.pop fvNo _ he9 (by rw [H8.out.1.length_eq]; decide)
          clear he9
          go_wp2_with fail
          refine hpop.mono ?_
          rintro e w9 ⟨rfl, v9, c9, hp, h9⟩
          have hone : c9.length = 1 := by
            have h1 := hp.length_eq
            rw [H8.out.1.length_eq] at h1
            simpa using h1
          have hB14 := new_thing w9 2 1
          have hZ : Sees2 w (w9.alloc (.cells #[.int .i64 2, .int .i64 1] 33)) B9 B11 w9.heap.size := ⟨(H8.out.2.2.go h9.stay).go (Stay.new _ _), hB14⟩
          have HL : Hid (∀ W, Stay (w9.alloc (.cells #[.int .i64 2, .int .i64 1] 33)) W → Calls Try.prog 40 #[.pointer (some ⟨hz, 0, none⟩)] W fun e w' => e = .returned (.int .i64 1) ∧ w' = W) := fun W hW => by
            have h1 := HT.len_any (h9.hp.stay ((Stay.new _ _).trans hW))
            rw [hone] at h1
            exact h1
          clear hpop hp h9 hone hB14 H8
          go_wp2_with fail
          generalize w9.alloc (.cells #[.int .i64 2, .int .i64 1] 33) = Z at hZ HL ⊢
          generalize w9.heap.size = B14 at hZ ⊢
          have HZ : Hid (Sees2 w Z B9 B11 B14) := hZ
          obtain ⟨⟨_, z1, z2, z3, z4⟩, z5, z6⟩ := hZ
          have e1 := eqlSame 0 0
          have e2 := eqlSame 2 1
          have hg := guardT
          have hS0 := sees_keep (Stay.drew Z) ⟨z1, z2, z3, z4, z5, z6, Stay.refl Z⟩
          go_region_held3 (fun W => W.cell? ⟨B9, 0, none⟩ = some (.int .i64 0) ∧ W.cell? ⟨B9, 1, none⟩ = some (.int .i64 0) ∧ W.cell? ⟨B11, 0, none⟩ = some (.int .i64 0) ∧ W.cell? ⟨B11, 1, none⟩ = some (.int .i64 0) ∧ W.cell? ⟨B14, 0, none⟩ = some (.int .i64 2) ∧ W.cell? ⟨B14, 1, none⟩ = some (.int .i64 1) ∧ Hid (Stay Z W)) (first | assumption | (exact sees_keep (by assumption) (by assumption))) (first
            | (go_at_call 40; refine (nil_len _).mono ?_; rintro e8 w8 ⟨rfl, hw8⟩; have hw8' := hw8.symm; subst hw8'; clear hw8)
            | (go_at_call 40; refine (HL.out _ (sees_stay (by assumption))).mono ?_; rintro e8 w8 ⟨rfl, hw8⟩; have hw8' := hw8.symm; subst hw8'; clear hw8)
            | (go_at_call 29; refine (thing_any 2 1 _).mono ?_; rintro e8 w8 ⟨rfl, hs8⟩)
            | (go_at_call 15; refine (works_any _).mono ?_; rintro e8 w8 ⟨rfl, hs8⟩))
          have HE : Hid (Stay w w8) := HZ.out.1.1.trans (sees_stay (Z := Z) (B9 := B9) (B11 := B11) (B14 := B14) (by assumption))
          clear hS0 HL HZ e1 e2 z1 z2 z3 z4 z5 z6
          go_wp2
          go_ret
          exact ⟨rfl, HE.out⟩
end Go.Proofs.Ytjbglpeikhpieaa
