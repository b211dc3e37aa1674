/- FactsWrites: the walk. -/
import Derived.Test.YtbbgembkdhcidaaFWq
namespace Go.Proofs.Ytbbgembkdhcidaa
open Go.RowKit Go.Maps

set_option maxRecDepth 100000 in
set_option maxHeartbeats 8000000 in
theorem writes_walk (w : World) (a : Option Addr) (b off c : Nat) (ts : List Tx) (z : Int) (p : ByteArray) (hT : TxsS w a b off ts) (hnn : ∀ t ∈ ts, t.a = none → t.c = 0 ∧ t.xs = []) (hm : ∀ t ∈ ts, t.xs.length ≤ 1048576) (hl : ts.length ≤ 1048576) (hg : sumG (ts.map Tx.xs) * 2 + 8 ≤ 140737488355328) (hp : p.size ≤ 281474976710656) :
    Calls Try.prog 3 #[.slice a ts.length c, .int .i64 z, .string p] w fun e w' => e = .returned (.bool true) ∧ Stay w w' := by
  have hn := lnum_any
  have hkn := known_any
  have c0 := lent_any w a b off c ts hT hnn hm hl
  -- a list of lent tuples, read as the tuples are
  have hread : ∀ V G cap, LentR w.heap.size V G cap (ts.map Tx.xs) → ∃ xs : List Tx, xs.map Tx.xs = ts.map Tx.xs ∧ xs.length = ts.length ∧ TxsS V (some ⟨G, 0, none⟩) G 0 xs ∧ ∀ t ∈ xs, t.xs.length ≤ 1048576 := fun V G cap hR => by
    obtain ⟨xs, h1, h2, h3⟩ := hR.is
    refine ⟨xs, h1, by simpa using congrArg List.length h1, h2, fun t ht => ?_⟩
    obtain ⟨y, hy, e⟩ := List.mem_map.1 (show t.xs ∈ ts.map Tx.xs by rw [← h1]; exact List.mem_map.2 ⟨t, ht, rfl⟩)
    rw [← e]; exact hm y hy
  have c1 : ∀ V G cap, LentR w.heap.size V G cap (ts.map Tx.xs) → Calls Try.prog 5 #[.slice (some ⟨G, 0, none⟩) ts.length cap, .int .i64 z] V fun e w' => e = .returned (.tuple #[.string (toB (writeT (ts.map Tx.xs) z).1), .int .i64 (writeT (ts.map Tx.xs) z).2]) ∧ Stay V w' := fun V G cap hR => by
    obtain ⟨xs, h1, h2, h3, h4⟩ := hread V G cap hR
    have := Write_any (c := cap) h3 (by omega) (fun t ht => by have := h4 t ht; omega) (by rw [h1]; exact hg) z
    rw [h1, h2] at this
    exact this
  have c2 := fun V (hV : Stay w V) => rWrite_any (c := c) (hT.stay hV) hl hg z
  have c3 : ∀ V G cap, LentR w.heap.size V G cap (ts.map Tx.xs) → Calls Try.prog 7 #[.string p, .int .i64 z, .slice (some ⟨G, 0, none⟩) ts.length cap] V fun e w' => ∃ q n v us, e = .returned (.tuple #[.agg #[.string q, .int .i64 n, v], .int .i64 (refZ (ts.map Tx.xs) z)]) ∧ (q, n) = (if refZ (ts.map Tx.xs) z = 0 then (p, z) else (⟨#[]⟩, 0)) ∧ OwnG V.heap.size w' v us (relT (ts.map Tx.xs) z) ∧ Stay V w' := fun V G cap hR => by
    obtain ⟨xs, h1, h2, h3, h4⟩ := hread V G cap hR
    have := Relation_any (c := cap) p z h3 hp (by omega) (fun t ht => by have := h4 t ht; unfold maxLen; omega)
    rw [h1, h2] at this
    exact this
  have c4 := fun V (hV : Stay w V) => rRelation_any (c := c) p z (hT.stay hV) hnn hm hl
  have c5 := fun V G cap (hR : LentR w.heap.size V G cap (ts.map Tx.xs)) (hV : Stay w V) => left_any V w.heap.size G cap a b off c ts hR (hT.stay hV) hm hl
  have hlm : (relT (ts.map Tx.xs) z).length ≤ 1048577 ∧ ∀ t ∈ relT (ts.map Tx.xs) z, t.length ≤ 1048577 := by
    unfold relT
    split
    · have h1 := setR_len (ts.map Tx.xs)
      rw [List.length_map] at h1
      refine ⟨by omega, fun t ht => ?_⟩
      obtain ⟨y, hy, rfl⟩ := List.mem_map.1 ((setR_mem _ _).1 ht)
      have := hm y hy; omega
    · exact ⟨by simp, fun t ht => by simp at ht⟩
  clear hread hT hnn hm hg
  generalize relT (ts.map Tx.xs) z = RT at *
  generalize (if refZ (ts.map Tx.xs) z = 0 then (p, z) else ((⟨#[]⟩ : ByteArray), (0 : Int))) = QN at *
  obtain ⟨Q0, N0⟩ := QN
  generalize refZ (ts.map Tx.xs) z = E at *
  generalize toB (writeT (ts.map Tx.xs) z).1 = X at *
  generalize (writeT (ts.map Tx.xs) z).2 = E2 at *
  generalize ts.map Tx.xs = gs at *
  generalize ts.length = n at *
  have HL : Hid (RT.length ≤ 1048577 ∧ ∀ t ∈ RT, t.length ≤ 1048577) := hlm
  clear hlm
  go_enter Try.func3, Try.ntmps3
  go_wp2_with (first
    | (go_at_call 4; refine c0.mono ?_; rintro e W1 ⟨G, cap, rfl, hR1, hs1⟩
       have HR1 : Hid (LentR w.heap.size W1 G cap gs ∧ Stay w W1) := ⟨hR1, hs1⟩
       have c1a := c1 W1 G cap hR1; clear c0 c1 hR1 hs1)
    | (go_at_call 5; refine c1a.mono ?_; rintro e W2 ⟨rfl, hs2⟩
       have HR2 : Hid (LentR w.heap.size W2 G cap gs ∧ Stay w W2) := ⟨HR1.out.1.stay hs2, HR1.out.2.trans hs2⟩
       have c2a := c2 W2 HR2.out.2; clear c1a c2 hs2)
    | (go_at_call 6; refine c2a.mono ?_; rintro e W3 ⟨rfl, hs3⟩
       have HR3 : Hid (LentR w.heap.size W3 G cap gs ∧ Stay w W3) := ⟨HR2.out.1.stay hs3, HR2.out.2.trans hs3⟩
       have c3a := c3 W3 G cap HR3.out.1; clear c2a hs3)
    | (go_at_call 7; refine c3a.mono ?_; rintro e W4 ⟨Qx, Nx, v4, us4, rfl, hqn, ho4, hs4⟩
       obtain ⟨a4, m4, k4, rfl⟩ := own_one ho4.row
       simp only [Prod.mk.injEq] at hqn
       obtain ⟨hq1, hq2⟩ := hqn
       subst Qx
       subst Nx
       have HO4 : Hid (OwnG W3.heap.size W4 (.slice a4 m4 k4) us4 RT ∧ Stay W3 W4) := ⟨ho4, hs4⟩
       have c3b := c3 (W4.alloc (.cells #[.string Q0, .int .i64 N0, .slice a4 m4 k4] 30)) G cap (HR3.out.1.stay (hs4.alloc _))
       clear c3a c3 ho4 hs4)
    | (go_at_call 7; refine c3b.mono ?_; rintro e W5 ⟨Qx, Nx, v5, us5, rfl, hqn, ho5, hs5⟩
       obtain ⟨a5, m5, k5, rfl⟩ := own_one ho5.row
       simp only [Prod.mk.injEq] at hqn
       obtain ⟨hq1, hq2⟩ := hqn
       subst Qx
       subst Nx
       have HO5 : Hid (OwnG (W4.alloc (.cells #[.string Q0, .int .i64 N0, .slice a4 m4 k4] 30)).heap.size W5 (.slice a5 m5 k5) us5 RT ∧ Stay (W4.alloc (.cells #[.string Q0, .int .i64 N0, .slice a4 m4 k4] 30)) W5) := ⟨ho5, hs5⟩
       have c4a := c4 (W5.alloc (.cells #[.string Q0, .int .i64 N0, .slice a5 m5 k5] 30)) (HR3.out.2.trans (((HO4.out.2.alloc _).trans hs5).alloc _))
       clear c3b c4 ho5 hs5)
    | (go_at_call 8; refine c4a.mono ?_; rintro e W6 ⟨Qx, Nx, v6, us6, rfl, hqn, ho6, hs6⟩
       obtain ⟨a6, m6, k6, rfl⟩ := own_one ho6.row
       simp only [Prod.mk.injEq] at hqn
       obtain ⟨hq1, hq2⟩ := hqn
       subst Qx
       subst Nx
       have HO6 : Hid (OwnG (W5.alloc (.cells #[.string Q0, .int .i64 N0, .slice a5 m5 k5] 30)).heap.size W6 (.slice a6 m6 k6) us6 RT ∧ Stay (W5.alloc (.cells #[.string Q0, .int .i64 N0, .slice a5 m5 k5] 30)) W6) := ⟨ho6, hs6⟩
       have HS6 : Hid (Stay W3 (W6.alloc (.cells #[.string Q0, .int .i64 N0, .slice a6 m6 k6] 30))) := (((((HO4.out.2.alloc _).trans HO5.out.2).alloc _).trans hs6).alloc _)
       have lf1 := c5 (W6.alloc (.cells #[.string Q0, .int .i64 N0, .slice a6 m6 k6] 30)) G cap (HR3.out.1.stay HS6.out) (HR3.out.2.trans HS6.out)
       have HB : Hid (∀ V, Stay (W6.alloc (.cells #[.string Q0, .int .i64 N0, .slice a6 m6 k6] 30)) V → (V.cell? ⟨W4.heap.size, 0, none⟩ = some (.string Q0) ∧ V.cell? ⟨W4.heap.size, 1, none⟩ = some (.int .i64 N0) ∧ V.cell? ⟨W4.heap.size, 2, none⟩ = some (.slice a4 m4 k4)) ∧ (V.cell? ⟨W5.heap.size, 0, none⟩ = some (.string Q0) ∧ V.cell? ⟨W5.heap.size, 1, none⟩ = some (.int .i64 N0) ∧ V.cell? ⟨W5.heap.size, 2, none⟩ = some (.slice a5 m5 k5)) ∧ (V.cell? ⟨W6.heap.size, 0, none⟩ = some (.string Q0) ∧ V.cell? ⟨W6.heap.size, 1, none⟩ = some (.int .i64 N0) ∧ V.cell? ⟨W6.heap.size, 2, none⟩ = some (.slice a6 m6 k6)) ∧ OwnG W3.heap.size V (.slice a4 m4 k4) us4 RT ∧ OwnG (W4.alloc (.cells #[.string Q0, .int .i64 N0, .slice a4 m4 k4] 30)).heap.size V (.slice a5 m5 k5) us5 RT ∧ OwnG (W5.alloc (.cells #[.string Q0, .int .i64 N0, .slice a5 m5 k5] 30)).heap.size V (.slice a6 m6 k6) us6 RT) := fun V hV => by
         (have s6 : Stay W6 V := (Stay.new _ _).trans hV
          have s5 : Stay (W5.alloc (.cells #[.string Q0, .int .i64 N0, .slice a5 m5 k5] 30)) V := HO6.out.2.trans s6
          have s4 : Stay (W4.alloc (.cells #[.string Q0, .int .i64 N0, .slice a4 m4 k4] 30)) V := HO5.out.2.trans ((Stay.new _ _).trans s5)
          exact ⟨rel_box s4, rel_box s5, rel_box hV, HO4.out.1.stay ((Stay.new _ _).trans s4), HO5.out.1.stay ((Stay.new _ _).trans s5), HO6.out.1.stay s6⟩)
       clear c4a ho6 hs6)
    | (go_at_call 10; refine lf1.mono ?_; rintro e W7 ⟨rfl, hs7⟩
       obtain ⟨⟨x0, x1, x2⟩, ⟨y0, y1, y2⟩, ⟨z0, z1, z2⟩, o4, o5, o6⟩ := HB.out W7 hs7
       have sm1 := sameG2 o4 o6 HL.out.1 HL.out.2
       have HS7 : Hid (Stay (W6.alloc (.cells #[.string Q0, .int .i64 N0, .slice a6 m6 k6] 30)) W7) := hs7
       clear lf1 hs7 o4 o5 o6)
    | (go_at_call 11; refine sm1.mono ?_; rintro e W8 ⟨rfl, hs8⟩
       have HS8 : Hid (Stay (W6.alloc (.cells #[.string Q0, .int .i64 N0, .slice a6 m6 k6] 30)) W8) := HS7.out.trans hs8
       clear x0 x1 x2 y0 y1 y2 z0 z1 z2
       obtain ⟨⟨x0, x1, x2⟩, ⟨y0, y1, y2⟩, ⟨z0, z1, z2⟩, o4, o5, o6⟩ := HB.out W8 HS8.out
       have sm2 := sameG2 o5 o6 HL.out.1 HL.out.2
       clear sm1 hs8 o4 o5 o6)
    | (go_at_call 11; refine sm2.mono ?_; rintro e W9 ⟨rfl, hs9⟩
       have HS9 : Hid (Stay (W6.alloc (.cells #[.string Q0, .int .i64 N0, .slice a6 m6 k6] 30)) W9) := HS8.out.trans hs9
       clear x0 x1 x2 y0 y1 y2 z0 z1 z2
       obtain ⟨⟨x0, x1, x2⟩, ⟨y0, y1, y2⟩, ⟨z0, z1, z2⟩, o4, o5, o6⟩ := HB.out W9 HS9.out
       have hne : ∀ k, blkG (.slice a4 m4 k4) us4 k → ¬ blkG (.slice a5 m5 k5) us5 k := fun k h3 h4 => (by have := (HO4.out.1.lt k h3).2; have := (HO5.out.1.lt k h4).1; simp at this; omega)
       have z3 : W3.heap.size ≤ W9.heap.size := (HS6.out.trans HS9.out).size
       have z34 : (W4.alloc (.cells #[.string Q0, .int .i64 N0, .slice a4 m4 k4] 30)).heap.size ≤ W9.heap.size := (((HO5.out.2.alloc _).trans HO6.out.2).trans ((Stay.new _ _).trans HS9.out)).size
       have ap := apart_of W9 (.slice a4 m4 k4) (.slice a5 m5 k5) us4 us5 (full_any W9 W3.heap.size _ us4 RT _ o4 z3 HL.out.1 HL.out.2)
         (fun W' hT => full_any W' (W4.alloc (.cells #[.string Q0, .int .i64 N0, .slice a4 m4 k4] 30)).heap.size _ us5 RT _ (o5.turn hT (fun k h4 h3 => hne k h3 h4)) (Nat.le_trans z34 hT.size) HL.out.1 HL.out.2) hne (fun k h4 => (o5.lt k h4).2)
       have HK : Hid (∀ W10, Turn (fun k => blkG (.slice a4 m4 k4) us4 k ∨ blkG (.slice a5 m5 k5) us5 k) W9 W10 → Stay W3 W10) := fun W10 hT => hT.stay (HS6.out.trans HS9.out) (fun k hk e => by
         rcases e with e | e
         · have := (HO4.out.1.lt k e).1; omega
         · have := (HO5.out.1.lt k e).1
           have := HO4.out.2.size
           simp at *
           omega)
       clear sm2 hs9 o4 o5 o6 hne z3 z34)
    | (go_at_call 12; refine ap.mono ?_; rintro e W10 ⟨rfl, hT10⟩
       have HS10 : Hid (Stay W3 W10) := HK.out W10 hT10
       have lf2 := c5 W10 G cap (HR3.out.1.stay HS10.out) (HR3.out.2.trans HS10.out)
       clear ap hT10 c5)
    | (go_at_call 10; refine lf2.mono ?_; rintro e W11 ⟨rfl, hs11⟩; clear lf2)
    | (go_at_call 13; refine (hkn _).mono ?_; rintro e W12 ⟨rfl, hs12⟩)
    | (go_at_call 9; refine (hn _ _).mono ?_; rintro e w' ⟨rfl, hw'⟩; have hw2 := hw'.symm; subst hw2))
  go_ret
  exact ⟨rfl, ((HR3.out.2.trans HS10.out).trans hs11).trans hs12⟩
end Go.Proofs.Ytbbgembkdhcidaa
