/- unquote, behind a backslash and an x. Written by tools/xn.py. -/
import Derived.Test.YtioafeckaeaopaaDoorXN
namespace Go.Proofs.YtioafeckaeaopaaDoor
open Go.RowKit Go.Maps

set_option maxRecDepth 100000 in
set_option maxHeartbeats 8000000 in
theorem uq_3 {w W : World} {s : ByteArray} {k : Nat} {bs L : List UInt8} {T : R} (HL : Hid (s.data.toList = L)) (_HT : Hid (unquoteT L = T)) (HLen : Hid (L.length = s.size)) (hs : s.size ≤ 140737488355328)
    (hru : ∀ (i : Nat) (W : World), i ≤ s.size → Calls Tryd.prog 60 #[.string s, .int .i64 (i : Int)] W fun e w' => e = .returned (.int .i32 (runeZ L (i : Int))) ∧ w' = W)
    (hB : Bld w.heap.size w.heap.size W bs) (hS : Stay w W) (hk : k ≤ s.size) (hl : bs.length ≤ 1024) (hl2 : bs.length < 1024) (hu : unquoteT L = fin bs k (unqD bs.length (L.drop k))) {u1 u2 u3 u4 u6 u7 u9 u10 u11 u12 u13 u14 u15 u16 u17 u18 u19 u20 u21 u22 u23 u24 u25 u26 u27 u28 u29 u30 u31 u32 u33 u34 u35 u36 u37 u38 u39 u40 u41 u42 u43 u44 u45 u46 u47 u48 u49 u50 u51 u52 u53 u54 u55 u56 u57 u58 u59 u60 u61 u62 u63 u64 u65 u66 u67 u68 u69 u70 u71 u72 u73 u74 u75 u76 u77 u78 u79 u80 : Value} {c : Code} (hc : Tryd.f73.body.map scopeOf = some c) :
    ∃ rest, findLabel c 3 = some (Code.seq .skip rest) ∧ rest.wp Tryd.prog (jumps (fun l' a' w' => uqJ w s l' a' w' ∧ uqM s l' a' w' < uqM s 3 { tmps := #[.string s, u1, u2, u3, u4, .pointer (some ⟨w.heap.size, 0, none⟩), u6, u7, .int .i64 (k : Int), u9, u10, u11, u12, u13, u14, u15, u16, u17, u18, u19, u20, u21, u22, u23, u24, u25, u26, u27, u28, u29, u30, u31, u32, u33, u34, u35, u36, u37, u38, u39, u40, u41, u42, u43, u44, u45, u46, u47, u48, u49, u50, u51, u52, u53, u54, u55, u56, u57, u58, u59, u60, u61, u62, u63, u64, u65, u66, u67, u68, u69, u70, u71, u72, u73, u74, u75, u76, u77, u78, u79, u80], defers := [] } W) (bodyPost Tryd.prog Tryd.f73 fun e w' => e = .returned (.tuple #[.string ⟨T.1.toArray⟩, .int .i64 (T.2.1 : Int), .bool T.2.2]) ∧ Stay w w')) { tmps := #[.string s, u1, u2, u3, u4, .pointer (some ⟨w.heap.size, 0, none⟩), u6, u7, .int .i64 (k : Int), u9, u10, u11, u12, u13, u14, u15, u16, u17, u18, u19, u20, u21, u22, u23, u24, u25, u26, u27, u28, u29, u30, u31, u32, u33, u34, u35, u36, u37, u38, u39, u40, u41, u42, u43, u44, u45, u46, u47, u48, u49, u50, u51, u52, u53, u54, u55, u56, u57, u58, u59, u60, u61, u62, u63, u64, u65, u66, u67, u68, u69, u70, u71, u72, u73, u74, u75, u76, u77, u78, u79, u80], defers := [] } W := by
  have hsz := hS.size
  simp only [Tryd.f73, Option.map_some, scopeOf, Option.some.injEq] at hc
  subst hc
  refine ⟨_, rfl, ?_⟩
  have hr := hru k W hk
  have hra := runeZ_lt L (k : Int)
  have hhx := hexValue_any (runeZ L (k : Int)) hra.1 hra.2
  have HB : Hid (Bld w.heap.size w.heap.size W bs) := hB
  have HS : Hid (Stay w W) := hS
  by_cases hkl : k < s.size
  · have hkL : k < L.length := by rw [HLen.out]; exact hkl
    rw [runeZ_in hkL] at hr hhx
    have hr2 := fun W => hru (k + 1) W (by omega)
    have hra2 := runeZ_lt L ((k + 1 : Nat) : Int)
    have hhx2 := hexValue_any (runeZ L ((k + 1 : Nat) : Int)) hra2.1 hra2.2
    clear hra hra2 hru hS
    have hwr : ∀ (n : Nat) (c : UInt8), Calls Tryd.prog 40 #[.pointer (some ⟨w.heap.size, 0, none⟩), .int .u8 (c.toNat : Int)] (W.drewN n) fun e w' => e = .returned .nilIface ∧ Bld w.heap.size w.heap.size w' (bs ++ [c]) ∧ Below w.heap.size (W.drewN n) w' := fun n c => writeByte_any (hB.drewN n) c (by omega) hsz
    clear hB
    by_cases h2 : k + 1 < s.size
    · have h2L : k + 1 < L.length := by rw [HLen.out]; exact h2
      rw [unqD_two _ L k hkL h2L] at hu
      rw [runeZ_in h2L] at hr2 hhx2
      rw [show ((k + 1 : Nat) : Int) = (k : Int) + 1 by omega] at hr2
      generalize L[k] = b at hu hr hhx
      generalize L[k + 1] = g at hu hr2 hhx2
      have hbv : hexV (b.toNat : Int) ≤ 15 := hexV_le _
      have hgv : hexV (g.toNat : Int) ≤ 15 := hexV_le _
      generalize (b.toNat : Int) = br at hr hhx hbv hu
      generalize (g.toNat : Int) = gr at hr2 hhx2 hgv hu
      generalize hexV br = H at hhx hu hbv
      generalize hexV gr = G at hhx2 hu hgv
      by_cases hn : H < 0
      · rw [if_pos hn, fin_no] at hu
        have HU : Hid (unquoteT L = no k) := hu
        clear hu hwr
        go_wp2_with fail
        refine hr.mono ?_
        rintro e w' ⟨rfl, hw'⟩
        have hw2 := hw'.symm
        subst hw2
        go_wp2_with fail
        refine (hhx _).mono ?_
        rintro e w' ⟨rfl, n, rfl⟩
        clear hr hhx
        go_wp2_with fail
        go_step3
        exact ⟨⟨k, bs, ⟨HB.out.drewN n, HS.out.trans (Stay.drewN _ n), by omega, by first | omega | (simp; omega), by rw [HL.out]; exact .inr (.inr (.inr ⟨rfl, HU.out⟩))⟩, _, _, _, _, _, _, _, _, _, _, _, _, _, _, _, _, _, _, _, _, _, _, _, _, _, _, _, _, _, _, _, _, _, _, _, _, _, _, _, _, _, _, _, _, _, _, _, _, _, _, _, _, _, _, _, _, _, _, _, _, _, _, _, _, _, _, _, _, _, _, _, _, _, _, _, _, _, _, rfl⟩, by simp [uqM, intOf]; try omega⟩
      · rw [if_neg hn] at hu
        by_cases hm : G < 0
        · rw [if_pos hm, fin_no] at hu
          have HU : Hid (unquoteT L = no (k + 1)) := hu
          clear hu hwr
          go_wp2_with fail
          refine hr.mono ?_
          rintro e w' ⟨rfl, hw'⟩
          have hw2 := hw'.symm
          subst hw2
          go_wp2_with fail
          refine (hhx _).mono ?_
          rintro e w' ⟨rfl, n, rfl⟩
          clear hr hhx
          go_wp2_with (first
            | (go_at_call 60; refine (hr2 _).mono ?_; rintro e w3 ⟨rfl, hw'⟩; have hw2 := hw'.symm; subst hw2)
            | (go_at_call 77; refine (hhx2 _).mono ?_; rintro e w4 ⟨rfl, n2, rfl⟩))
          go_step3
          exact ⟨⟨k + 1, bs, ⟨HB.out.drewN (n + n2), HS.out.trans (Stay.drewN _ (n + n2)), by omega, by first | omega | (simp; omega), by rw [HL.out]; exact .inr (.inr (.inr ⟨rfl, HU.out⟩))⟩, _, _, _, _, _, _, _, _, _, _, _, _, _, _, _, _, _, _, _, _, _, _, _, _, _, _, _, _, _, _, _, _, _, _, _, _, _, _, _, _, _, _, _, _, _, _, _, _, _, _, _, _, _, _, _, _, _, _, _, _, _, _, _, _, _, _, _, _, _, _, _, _, _, _, _, _, _, _, rfl⟩, by simp [uqM, intOf]; try omega⟩
        · rw [if_neg hm, fin_put] at hu
          obtain ⟨c, hcd⟩ : ∃ c : UInt8, c = (16 * H + G).toNat.toUInt8 := ⟨_, rfl⟩
          rw [← hcd] at hu
          have HU : Hid (unquoteT L = fin (bs ++ [c]) (k + 2) (unqP (bs ++ [c]).length (L.drop (k + 2)))) := by
            show unquoteT L = _
            rw [hu, List.length_append]; rfl
          clear hu
          have hwc := fun n => hwr n c
          have HC : Hid ((c.toNat : Int) = 16 * H + G) := hexC hn hm hbv hgv hcd
          clear hwr hcd
          go_wp2_with fail
          refine hr.mono ?_
          rintro e w' ⟨rfl, hw'⟩
          have hw2 := hw'.symm
          subst hw2
          go_wp2_with fail
          refine (hhx _).mono ?_
          rintro e w' ⟨rfl, n, rfl⟩
          clear hr hhx
          go_wp2_with (first
            | (go_at_call 60; refine (hr2 _).mono ?_; rintro e w3 ⟨rfl, hw'⟩; have hw2 := hw'.symm; subst hw2)
            | (go_at_call 77; refine (hhx2 _).mono ?_; rintro e w4 ⟨rfl, n2, rfl⟩))
          rw [show bits BinOp.or IntKind.i64 (H * 16) G % 256 = (c.toNat : Int) from (hexOr hn hbv hm hgv).trans HC.out.symm]
          refine (hwc _).mono ?_
          rintro e w5 ⟨rfl, hB2, hb2⟩
          have HB2 : Hid (Bld w.heap.size w.heap.size w5 (bs ++ [c])) := hB2
          have HS2 : Hid (Stay w w5) := (HS.out.trans (Stay.drewN _ _)).then_below hb2
          clear hB2 hb2 hwc
          go_wp2_with fail
          go_step3
          exact ⟨⟨k + 2, bs ++ [c], ⟨HB2.out, HS2.out, by omega, by first | omega | (simp; omega), by rw [HL.out]; exact .inl ⟨rfl, HU.out⟩⟩, _, _, _, _, _, _, _, _, _, _, _, _, _, _, _, _, _, _, _, _, _, _, _, _, _, _, _, _, _, _, _, _, _, _, _, _, _, _, _, _, _, _, _, _, _, _, _, _, _, _, _, _, _, _, _, _, _, _, _, _, _, _, _, _, _, _, _, _, _, _, _, _, _, _, _, _, _, _, rfl⟩, by simp [uqM, intOf]; try omega⟩
    · rw [unqD_one _ L k hkL (by rw [HLen.out]; exact h2)] at hu
      rw [runeZ_out (by rw [HLen.out]; omega)] at hr2 hhx2
      rw [show ((k + 1 : Nat) : Int) = (k : Int) + 1 by omega] at hr2
      rw [show hexV (-1) = -1 from by decide] at hhx2
      generalize L[k] = b at hu hr hhx
      have hbv : hexV (b.toNat : Int) ≤ 15 := hexV_le _
      generalize (b.toNat : Int) = br at hr hhx hbv hu
      generalize hexV br = H at hhx hu hbv
      clear hwr
      by_cases hn : H < 0
      · rw [if_pos hn, fin_no] at hu
        have HU : Hid (unquoteT L = no k) := hu
        clear hu
        go_wp2_with fail
        refine hr.mono ?_
        rintro e w' ⟨rfl, hw'⟩
        have hw2 := hw'.symm
        subst hw2
        go_wp2_with fail
        refine (hhx _).mono ?_
        rintro e w' ⟨rfl, n, rfl⟩
        clear hr hhx
        go_wp2_with fail
        go_step3
        exact ⟨⟨k, bs, ⟨HB.out.drewN n, HS.out.trans (Stay.drewN _ n), by omega, by first | omega | (simp; omega), by rw [HL.out]; exact .inr (.inr (.inr ⟨rfl, HU.out⟩))⟩, _, _, _, _, _, _, _, _, _, _, _, _, _, _, _, _, _, _, _, _, _, _, _, _, _, _, _, _, _, _, _, _, _, _, _, _, _, _, _, _, _, _, _, _, _, _, _, _, _, _, _, _, _, _, _, _, _, _, _, _, _, _, _, _, _, _, _, _, _, _, _, _, _, _, _, _, _, _, rfl⟩, by simp [uqM, intOf]; try omega⟩
      · rw [if_neg hn, fin_no] at hu
        have HU : Hid (unquoteT L = no (k + 1)) := hu
        clear hu
        go_wp2_with fail
        refine hr.mono ?_
        rintro e w' ⟨rfl, hw'⟩
        have hw2 := hw'.symm
        subst hw2
        go_wp2_with fail
        refine (hhx _).mono ?_
        rintro e w' ⟨rfl, n, rfl⟩
        clear hr hhx
        go_wp2_with (first
          | (go_at_call 60; refine (hr2 _).mono ?_; rintro e w3 ⟨rfl, hw'⟩; have hw2 := hw'.symm; subst hw2)
          | (go_at_call 77; refine (hhx2 _).mono ?_; rintro e w4 ⟨rfl, n2, rfl⟩))
        go_step3
        exact ⟨⟨k + 1, bs, ⟨HB.out.drewN (n + n2), HS.out.trans (Stay.drewN _ (n + n2)), by omega, by first | omega | (simp; omega), by rw [HL.out]; exact .inr (.inr (.inr ⟨rfl, HU.out⟩))⟩, _, _, _, _, _, _, _, _, _, _, _, _, _, _, _, _, _, _, _, _, _, _, _, _, _, _, _, _, _, _, _, _, _, _, _, _, _, _, _, _, _, _, _, _, _, _, _, _, _, _, _, _, _, _, _, _, _, _, _, _, _, _, _, _, _, _, _, _, _, _, _, _, _, _, _, _, _, _, rfl⟩, by simp [uqM, intOf]; try omega⟩
  · rw [List.drop_eq_nil_of_le (by rw [HLen.out]; omega), unqD, fin_no] at hu
    have HU : Hid (unquoteT L = no k) := hu
    rw [runeZ_out (by rw [HLen.out]; omega)] at hr hhx
    rw [show hexV (-1) = -1 from by decide] at hhx
    clear hu hru hS hB hra
    go_wp2_with (first
      | (go_at_call 60; refine hr.mono ?_; rintro e w' ⟨rfl, hw'⟩; have hw2 := hw'.symm; subst hw2)
      | (go_at_call 77; refine (hhx _).mono ?_; rintro e w' ⟨rfl, n, rfl⟩))
    go_step3
    exact ⟨⟨k, bs, ⟨HB.out.drewN n, HS.out.trans (Stay.drewN _ n), by omega, by first | omega | (simp; omega), by rw [HL.out]; exact .inr (.inr (.inr ⟨rfl, HU.out⟩))⟩, _, _, _, _, _, _, _, _, _, _, _, _, _, _, _, _, _, _, _, _, _, _, _, _, _, _, _, _, _, _, _, _, _, _, _, _, _, _, _, _, _, _, _, _, _, _, _, _, _, _, _, _, _, _, _, _, _, _, _, _, _, _, _, _, _, _, _, _, _, _, _, _, _, _, _, _, _, _, rfl⟩, by simp [uqM, intOf]; try omega⟩
end Go.Proofs.YtioafeckaeaopaaDoor
