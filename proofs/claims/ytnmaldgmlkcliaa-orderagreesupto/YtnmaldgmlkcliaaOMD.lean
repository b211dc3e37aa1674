/- Merge's order of heads. -/
import Derived.Test.YtnmaldgmlkcliaaOMC
import Derived.Deep.RegionHeld3
namespace Go.Proofs.Ytnmaldgmlkcliaa
open Go.RowKit Go.Maps

theorem new2 (w : World) (x y : Value) (t : TypeId) : (w.alloc (.cells #[x, y] t)).cell? ⟨w.heap.size, 0, none⟩ = some x ∧ (w.alloc (.cells #[x, y] t)).cell? ⟨w.heap.size, 1, none⟩ = some y := by
  have h := heap_alloc_new w (.cells #[x, y] t)
  simp only [World.cell?, h]
  exact ⟨rfl, rfl⟩
theorem ten_stay {wr W : World} {p0 p1 p2 p3 p4 p5 p6 p7 p8 : Addr} {v0 v1 v2 v3 v4 v5 v6 v7 v8 : Value} (h : W.cell? p0 = some v0 ∧ W.cell? p1 = some v1 ∧ W.cell? p2 = some v2 ∧ W.cell? p3 = some v3 ∧ W.cell? p4 = some v4 ∧ W.cell? p5 = some v5 ∧ W.cell? p6 = some v6 ∧ W.cell? p7 = some v7 ∧ W.cell? p8 = some v8 ∧ Hid (Stay wr W)) : Stay wr W := h.2.2.2.2.2.2.2.2.2.out
theorem ten_keep {wr W W' : World} {p0 p1 p2 p3 p4 p5 p6 p7 p8 : Addr} {v0 v1 v2 v3 v4 v5 v6 v7 v8 : Value} (h : W.cell? p0 = some v0 ∧ W.cell? p1 = some v1 ∧ W.cell? p2 = some v2 ∧ W.cell? p3 = some v3 ∧ W.cell? p4 = some v4 ∧ W.cell? p5 = some v5 ∧ W.cell? p6 = some v6 ∧ W.cell? p7 = some v7 ∧ W.cell? p8 = some v8 ∧ Hid (Stay wr W)) (hs : Stay W W') : W'.cell? p0 = some v0 ∧ W'.cell? p1 = some v1 ∧ W'.cell? p2 = some v2 ∧ W'.cell? p3 = some v3 ∧ W'.cell? p4 = some v4 ∧ W'.cell? p5 = some v5 ∧ W'.cell? p6 = some v6 ∧ W'.cell? p7 = some v7 ∧ W'.cell? p8 = some v8 ∧ Hid (Stay wr W') :=
  ⟨hs.cell h.1, hs.cell h.2.1, hs.cell h.2.2.1, hs.cell h.2.2.2.1, hs.cell h.2.2.2.2.1, hs.cell h.2.2.2.2.2.1, hs.cell h.2.2.2.2.2.2.1, hs.cell h.2.2.2.2.2.2.2.1, hs.cell h.2.2.2.2.2.2.2.2.1, h.2.2.2.2.2.2.2.2.2.out.trans hs⟩
/-- The function that order.Merge hands on: box names the order. -/
def headF (box : Nat) : Value := .func (.func 23) #[] #[.pointer (some ⟨box, 0, none⟩)]
set_option maxRecDepth 100000 in
set_option maxHeartbeats 4000000 in
theorem head_any (box : Nat) (W : World) (hb : W.cell? ⟨box, 0, none⟩ = some (.func (.func 9) #[] #[])) (b1 o1 n1 c1 b2 o2 n2 c2 : Nat) (i1 i2 : Int) (x1 x2 y1 y2 : Int) (hn1 : 0 < n1) (hn2 : 0 < n2)
    (hx1 : W.cell? ⟨b1, o1, none⟩ = some (.int .i64 x1)) (hx2 : W.cell? ⟨b1, o1 + 1, none⟩ = some (.int .i64 x2)) (hy1 : W.cell? ⟨b2, o2, none⟩ = some (.int .i64 y1)) (hy2 : W.cell? ⟨b2, o2 + 1, none⟩ = some (.int .i64 y2)) :
    Calls Try.prog 23 #[.agg #[.slice (some ⟨b1, o1, none⟩) n1 c1, .int .i64 i1], .agg #[.slice (some ⟨b2, o2, none⟩) n2 c2, .int .i64 i2], .pointer (some ⟨box, 0, none⟩)] W fun e w' => e = .returned (.int .i64 (or2 (if x1 < y1 then -5 else if y1 < x1 then 7 else 0) (cmp1 i1 i2))) ∧ Stay W w' := by
  have e1 : (0 : Int) < (n1 : Int) := by omega
  have e2 : (0 : Int) < (n2 : Int) := by omega
  have l0 := World.block_lt_of_cell? W _ hb
  have l1 := World.block_lt_of_cell? W _ hx1
  have l2 := World.block_lt_of_cell? W _ hy1
  have hby : ∀ w, Calls Try.prog 9 #[.agg #[.int .i64 x1, .int .i64 x2], .agg #[.int .i64 y1, .int .i64 y2]] w fun e w' => e = .returned (.int .i64 (if x1 < y1 then -5 else if y1 < x1 then 7 else 0)) ∧ Stay w w' := fun w => (by_any (x1, x2) (y1, y2) w).mono fun e w' ⟨h1, h2⟩ => ⟨h1, by rw [h2]; exact (Stay.new _ _).alloc _⟩
  generalize (if x1 < y1 then (-5 : Int) else if y1 < x1 then 7 else 0) = r at hby ⊢
  have hcm : ∀ w, Calls Try.prog 25 #[.int .i64 i1, .int .i64 i2] w fun e w' => e = .returned (.int .i64 (cmp1 i1 i2)) ∧ Stay w w' := fun w => (mcmp_any i1 i2 w).mono fun e w' ⟨h1, h2⟩ => ⟨h1, by rw [h2]; exact Stay.refl _⟩
  generalize cmp1 i1 i2 = s at hcm ⊢
  have hor : ∀ V : World, Calls Try.prog 24 #[.slice (some ⟨V.heap.size, 0, none⟩) 2 2] (V.alloc (.cells #[.int .i64 r, .int .i64 s] 3)) fun e w' => e = .returned (.int .i64 (or2 r s)) ∧ Stay (V.alloc (.cells #[.int .i64 r, .int .i64 s] 3)) w' := fun V => (mor_any r s _ _ (new2 _ _ _ _).1 (new2 _ _ _ _).2).mono fun e w' ⟨h1, h2⟩ => ⟨h1, by rw [h2]; exact Stay.refl _⟩
  obtain ⟨W2, hW2⟩ : ∃ W2, W2 = (W.alloc (.cells #[.slice (some ⟨b1, o1, none⟩) n1 c1, .int .i64 i1] 47)).alloc (.cells #[.slice (some ⟨b2, o2, none⟩) n2 c2, .int .i64 i2] 47) := ⟨_, rfl⟩
  obtain ⟨B, hB⟩ : ∃ B, B = W.heap.size := ⟨_, rfl⟩
  have hs : Stay W W2 := by rw [hW2]; exact (Stay.new _ _).alloc _
  have k0 : W2.cell? ⟨B, 0, none⟩ = some (.slice (some ⟨b1, o1, none⟩) n1 c1) := by rw [hW2, hB]; exact (Stay.new _ _).cell (new2 _ _ _ _).1
  have k1 : W2.cell? ⟨B, 1, none⟩ = some (.int .i64 i1) := by rw [hW2, hB]; exact (Stay.new _ _).cell (new2 _ _ _ _).2
  have k2 : W2.cell? ⟨B + 1, 0, none⟩ = some (.slice (some ⟨b2, o2, none⟩) n2 c2) := by rw [hW2, hB]; exact (World.size_alloc W _) ▸ (new2 (W.alloc _) _ _ _).1
  have k3 : W2.cell? ⟨B + 1, 1, none⟩ = some (.int .i64 i2) := by rw [hW2, hB]; exact (World.size_alloc W _) ▸ (new2 (W.alloc _) _ _ _).2
  have hS0 := ten_keep (wr := W2) ⟨hs.cell hb, k0, k1, k2, k3, hs.cell hx1, hs.cell hx2, hs.cell hy1, hs.cell hy2, (Stay.refl W2 : Hid (Stay W2 W2))⟩ (Stay.drew W2)
  have HS : Hid (Stay W W2) := hs
  clear hb hx1 hx2 hy1 hy2 l0 l1 l2 hs k0 k1 k2 k3
  go_enter Try.func23, Try.ntmps23
  go_wp2_with fail
  rw [← hW2, ← hB]
  clear hW2 hB
  go_region_held3 (fun V => V.cell? ⟨box, 0, none⟩ = some (.func (.func 9) #[] #[]) ∧ V.cell? ⟨B, 0, none⟩ = some (.slice (some ⟨b1, o1, none⟩) n1 c1) ∧ V.cell? ⟨B, 1, none⟩ = some (.int .i64 i1) ∧ V.cell? ⟨B + 1, 0, none⟩ = some (.slice (some ⟨b2, o2, none⟩) n2 c2) ∧ V.cell? ⟨B + 1, 1, none⟩ = some (.int .i64 i2) ∧ V.cell? ⟨b1, o1, none⟩ = some (.int .i64 x1) ∧ V.cell? ⟨b1, o1 + 1, none⟩ = some (.int .i64 x2) ∧ V.cell? ⟨b2, o2, none⟩ = some (.int .i64 y1) ∧ V.cell? ⟨b2, o2 + 1, none⟩ = some (.int .i64 y2) ∧ Hid (Stay W2 V)) (first | assumption | (exact ten_keep (by assumption) (by assumption)) | (exact ten_keep (by assumption) (Stay.drew _)) | (exact ten_keep (by assumption) (Stay.new _ _))) (first
    | (go_at_call 9; refine (hby _).mono ?_; rintro e9 w9 ⟨rfl, hs9⟩)
    | (go_at_call 25; refine (hcm _).mono ?_; rintro e9 w9 ⟨rfl, hs9⟩)
    | (go_at_call 24; refine (hor _).mono ?_; rintro e9 w9 ⟨rfl, hs9⟩))
  all_goals
    have HS9 : Hid (Stay W2 w9) := ten_stay (by assumption)
    clear hS0 hs9
    go_wp2
    go_ret
    exact ⟨rfl, HS.out.trans HS9.out⟩
end Go.Proofs.Ytnmaldgmlkcliaa
