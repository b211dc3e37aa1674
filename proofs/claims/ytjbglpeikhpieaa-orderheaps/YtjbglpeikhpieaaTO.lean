/- Two heaps and their two counterparts, apart from one another. No walk here. -/
import Derived.Test.YtjbglpeikhpieaaTN
namespace Go.Proofs.Ytjbglpeikhpieaa
open Go.RowKit Go.Maps Go.Sort
open Go.Proofs.Ytjbglpeikhpieaa.HT (E Hp foot ahd byC Fv)

/-- Two pairs, apart, behind B, and neither ob nor rb is theirs. -/
def Twin (B ob rb : Nat) (W : World) (i h0 r0 : Nat) (L0 : List (Int × Int)) (h1 r1 : Nat) (L1 : List (Int × Int)) : Prop :=
  ∃ v0 t0 rv0 v1 t1 rv1, Pair W h0 v0 t0 r0 rv0 L0 ∧ Pair W h1 v1 t1 r1 rv1 L1 ∧ (∀ k, both h0 v0 r0 rv0 k → ¬ both h1 v1 r1 rv1 k) ∧ t0 ≤ i ∧ t1 ≤ i ∧
    (∀ k, both h0 v0 r0 rv0 k ∨ both h1 v1 r1 rv1 k → B ≤ k ∧ k ≠ ob ∧ k ≠ rb) ∧ B ≤ W.heap.size ∧ ob < W.heap.size ∧ rb < W.heap.size
/-- What may turn. -/
def May (B ob rb k : Nat) : Prop := B ≤ k ∧ k ≠ ob ∧ k ≠ rb
section
variable {B ob rb i h0 r0 h1 r1 : Nat} {W W' : World} {L0 L1 : List (Int × Int)}
theorem Twin.swap (h : Twin B ob rb W i h0 r0 L0 h1 r1 L1) : Twin B ob rb W i h1 r1 L1 h0 r0 L0 := by
  obtain ⟨v0, t0, rv0, v1, t1, rv1, p0, p1, ap, q0, q1, fr, z⟩ := h
  exact ⟨v1, t1, rv1, v0, t0, rv0, p1, p0, fun k hk hk' => ap k hk' hk, q1, q0, fun k hk => fr k hk.symm, z⟩
theorem Twin.stay (h : Twin B ob rb W i h0 r0 L0 h1 r1 L1) (hs : Stay W W') : Twin B ob rb W' i h0 r0 L0 h1 r1 L1 := by
  obtain ⟨v0, t0, rv0, v1, t1, rv1, p0, p1, ap, q0, q1, fr, z1, z2, z3⟩ := h
  have := hs.size
  exact ⟨v0, t0, rv0, v1, t1, rv1, p0.stay hs, p1.stay hs, ap, q0, q1, fr, by omega, by omega, by omega⟩
theorem twin_step {v0 : Value} {t0 : Nat} {rv0 v1 : Value} {t1 : Nat} {rv1 : Value} {L0' : List (Int × Int)} (p1 : Pair W h1 v1 t1 r1 rv1 L1) (ap : ∀ k, both h0 v0 r0 rv0 k → ¬ both h1 v1 r1 rv1 k) (q0 : t0 ≤ i) (q1 : t1 ≤ i)
    (fr : ∀ k, both h0 v0 r0 rv0 k ∨ both h1 v1 r1 rv1 k → B ≤ k ∧ k ≠ ob ∧ k ≠ rb) (z : B ≤ W.heap.size ∧ ob < W.heap.size ∧ rb < W.heap.size) (hL : Left W h0 v0 t0 r0 rv0 L0 L0' W') : Twin B ob rb W' (i + 1) h0 r0 L0' h1 r1 L1 ∧ Turn (May B ob rb) W W' := by
  obtain ⟨v', t', rv', k1, k2, k3, k4, k5⟩ := hL
  have hz := k3.size
  refine ⟨⟨v', t', rv', v1, t1, rv1, k1, p1.turn k3 (fun k hk hk' => ap k hk' hk), fun k hk hk' => ?_, by omega, by omega, fun k hk => ?_, by omega, by omega, by omega⟩, k3.mono (fun k _ hk => fr k (.inl hk))⟩
  · rcases k4 k hk with h | h
    · exact ap k h hk'
    · have := p1.lt k hk'; omega
  · rcases hk with hk | hk
    · rcases k4 k hk with h | h
      · exact fr k (.inl h)
      · exact ⟨by omega, by omega, by omega⟩
    · exact fr k (.inr hk)
theorem twin_does (h : Twin B ob rb W i h0 r0 L0 h1 r1 L1) (kind on t1 t2 : Int) (hsz : (L0.length + 1) * 24 ≤ 140737488355328) (htn : i ≤ 140737488355328) :
    Calls Try.prog 39 #[.pointer (some ⟨h0, 0, none⟩), .pointer (some ⟨r0, 0, none⟩), .agg #[.int .i64 kind, .int .i64 on, .int .i64 t1, .int .i64 t2]] W fun e w' => e = .returned (.bool true) ∧ ∃ L', Twin B ob rb w' (i + 1) h0 r0 L' h1 r1 L1 ∧ L'.length ≤ L0.length + 1 ∧ Turn (May B ob rb) W w' := by
  obtain ⟨v0, t0, rv0, v1, t1', rv1, p0, p1, ap, q0, q1, fr, z⟩ := h
  refine (does_any p0 kind on t1 t2 hsz (by omega)).mono ?_
  rintro e w' ⟨rfl, L', hL⟩
  obtain ⟨k1, k2⟩ := twin_step p1 ap q0 q1 fr z hL
  obtain ⟨_, _, _, _, _, _, _, hl⟩ := hL
  exact ⟨rfl, L', k1, hl, k2⟩
theorem twin_pop (h : Twin B ob rb W i h0 r0 L0 h1 r1 L1) (hsz : (L0.length + 1) * 24 ≤ 140737488355328) :
    Calls Try.prog 39 #[.pointer (some ⟨h0, 0, none⟩), .pointer (some ⟨r0, 0, none⟩), .agg #[.int .i64 4, .int .i64 0, .int .i64 0, .int .i64 0]] W fun e w' => e = .returned (.bool true) ∧ ∃ L', Twin B ob rb w' (i + 1) h0 r0 L' h1 r1 L1 ∧ L'.length = L0.length - 1 ∧ Turn (May B ob rb) W w' := by
  obtain ⟨v0, t0, rv0, v1, t1', rv1, p0, p1, ap, q0, q1, fr, z⟩ := h
  refine (does_pop p0 0 0 0 hsz).mono ?_
  rintro e w' ⟨rfl, L', hl, hL⟩
  obtain ⟨k1, k2⟩ := twin_step p1 ap q0 q1 fr z hL
  exact ⟨rfl, L', k1, hl, k2⟩
/-- The document's list as it lies. -/
theorem Twin.list (h : Twin B ob rb W i h0 r0 L0 h1 r1 L1) : ∃ a c, W.cell? ⟨r0, 0, none⟩ = some (.slice a L0.length c) ∧ r0 < W.heap.size := by
  obtain ⟨v0, t0, rv0, v1, t1', rv1, p0, p1, ap, q0, q1, fr, z⟩ := h
  obtain ⟨va, vb, vc, rfl, _, _, _, _⟩ := p0.ref.row.form
  exact ⟨va, vc, p0.ref.c0, p0.ref.lt r0 (.inl rfl)⟩
theorem Twin.len (h : Twin B ob rb W i h0 r0 L0 h1 r1 L1) : Calls Try.prog 40 #[.pointer (some ⟨h0, 0, none⟩)] W fun e w' => e = .returned (.int .i64 (L0.length : Int)) ∧ w' = W := by
  obtain ⟨v0, t0, rv0, v1, t1', rv1, p0, p1, ap, q0, q1, fr, z⟩ := h
  exact does_len W p0
end

/-- The two heaps, as the walk has them. -/
structure Duo (w W : World) (ob rb h0 r0 h1 r1 i : Nat) (L0 L1 : List (Int × Int)) : Prop where
  stay : Stay w W
  c0 : W.cell? ⟨ob, 0, none⟩ = some (.pointer (some ⟨h0, 0, none⟩))
  c1 : W.cell? ⟨ob, 1, none⟩ = some (.pointer (some ⟨h1, 0, none⟩))
  d0 : W.cell? ⟨rb, 0, none⟩ = some (.pointer (some ⟨r0, 0, none⟩))
  d1 : W.cell? ⟨rb, 1, none⟩ = some (.pointer (some ⟨r1, 0, none⟩))
  twin : Twin w.heap.size ob rb W i h0 r0 L0 h1 r1 L1
section
variable {w W W' : World} {ob rb i h0 r0 h1 r1 : Nat} {L0 L1 : List (Int × Int)}
theorem Duo.go (h : Duo w W ob rb h0 r0 h1 r1 i L0 L1) (hs : Stay W W') : Duo w W' ob rb h0 r0 h1 r1 i L0 L1 :=
  ⟨h.stay.trans hs, hs.cell h.c0, hs.cell h.c1, hs.cell h.d0, hs.cell h.d1, h.twin.stay hs⟩
theorem Duo.turn {L0' L1' : List (Int × Int)} {i' : Nat} (h : Duo w W ob rb h0 r0 h1 r1 i L0 L1) (ht : Turn (May w.heap.size ob rb) W W') (hT : Twin w.heap.size ob rb W' i' h0 r0 L0' h1 r1 L1') : Duo w W' ob rb h0 r0 h1 r1 i' L0' L1' :=
  ⟨ht.stay h.stay (fun k hk hM => by have := hM.1; omega), ht.cell h.c0 (fun hM => hM.2.1 rfl), ht.cell h.c1 (fun hM => hM.2.1 rfl), ht.cell h.d0 (fun hM => hM.2.2 rfl), ht.cell h.d1 (fun hM => hM.2.2 rfl), hT⟩
/-- The n-th one and the other. -/
theorem Duo.pick (h : Duo w W ob rb h0 r0 h1 r1 i L0 L1) (n : Nat) (hn : n < 2) : ∃ hx rx Lx hy ry Ly, W.cell? ⟨ob, n, none⟩ = some (.pointer (some ⟨hx, 0, none⟩)) ∧ W.cell? ⟨rb, n, none⟩ = some (.pointer (some ⟨rx, 0, none⟩)) ∧ Twin w.heap.size ob rb W i hx rx Lx hy ry Ly ∧
    (Lx.length = (if n = 0 then L0 else L1).length ∧ Ly.length = (if n = 0 then L1 else L0).length) ∧
    ∀ W' i' Lx', Turn (May w.heap.size ob rb) W W' → Twin w.heap.size ob rb W' i' hx rx Lx' hy ry Ly → Duo w W' ob rb h0 r0 h1 r1 i' (if n = 0 then Lx' else L0) (if n = 0 then L1 else Lx') := by
  rcases Nat.eq_zero_or_pos n with rfl | hp
  · exact ⟨h0, r0, L0, h1, r1, L1, h.c0, h.d0, h.twin, ⟨rfl, rfl⟩, fun W' i' Lx' ht hT => h.turn ht hT⟩
  · obtain rfl : n = 1 := by omega
    exact ⟨h1, r1, L1, h0, r0, L0, h.c1, h.d1, h.twin.swap, ⟨rfl, rfl⟩, fun W' i' Lx' ht hT => h.turn ht hT.swap⟩
end
end Go.Proofs.Ytjbglpeikhpieaa
