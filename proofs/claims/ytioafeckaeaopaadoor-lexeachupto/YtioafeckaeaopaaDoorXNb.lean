/- unquote, behind a mark or a piece. Written by tools/xn.py. -/
import Derived.Test.YtioafeckaeaopaaDoorXN
namespace Go.Proofs.YtioafeckaeaopaaDoor
open Go.RowKit Go.Maps

set_option maxRecDepth 100000 in
set_option maxHeartbeats 8000000 in
theorem uq_2 {w W : World} {s : ByteArray} {k : Nat} {bs L : List UInt8} {T : R} (HL : Hid (s.data.toList = L)) (HT : Hid (unquoteT L = T)) (HLen : Hid (L.length = s.size)) (hs : s.size ≤ 140737488355328)
    (hru : ∀ (i : Nat) (W : World), i ≤ s.size → Calls Tryd.prog 60 #[.string s, .int .i64 (i : Int)] W fun e w' => e = .returned (.int .i32 (runeZ L (i : Int))) ∧ w' = W)
    (hB : Bld w.heap.size w.heap.size W bs) (hS : Stay w W) (hk : k ≤ s.size) (hl : bs.length ≤ 1024) (hu : unquoteT L = fin bs k (unqP bs.length (L.drop k))) {u1 u2 u3 u4 u6 u7 u9 u10 u11 u12 u13 u14 u15 u16 u17 u18 u19 u20 u21 u22 u23 u24 u25 u26 u27 u28 u29 u30 u31 u32 u33 u34 u35 u36 u37 u38 u39 u40 u41 u42 u43 u44 u45 u46 u47 u48 u49 u50 u51 u52 u53 u54 u55 u56 u57 u58 u59 u60 u61 u62 u63 u64 u65 u66 u67 u68 u69 u70 u71 u72 u73 u74 u75 u76 u77 u78 u79 u80 : Value} {c : Code} (hc : Tryd.f73.body.map scopeOf = some c) :
    ∃ rest, findLabel c 2 = some (Code.seq .skip rest) ∧ rest.wp Tryd.prog (jumps (fun l' a' w' => uqJ w s l' a' w' ∧ uqM s l' a' w' < uqM s 2 { tmps := #[.string s, u1, u2, u3, u4, .pointer (some ⟨w.heap.size, 0, none⟩), u6, u7, .int .i64 (k : Int), u9, u10, u11, u12, u13, u14, u15, u16, u17, u18, u19, u20, u21, u22, u23, u24, u25, u26, u27, u28, u29, u30, u31, u32, u33, u34, u35, u36, u37, u38, u39, u40, u41, u42, u43, u44, u45, u46, u47, u48, u49, u50, u51, u52, u53, u54, u55, u56, u57, u58, u59, u60, u61, u62, u63, u64, u65, u66, u67, u68, u69, u70, u71, u72, u73, u74, u75, u76, u77, u78, u79, u80], defers := [] } W) (bodyPost Tryd.prog Tryd.f73 fun e w' => e = .returned (.tuple #[.string ⟨T.1.toArray⟩, .int .i64 (T.2.1 : Int), .bool T.2.2]) ∧ Stay w w')) { tmps := #[.string s, u1, u2, u3, u4, .pointer (some ⟨w.heap.size, 0, none⟩), u6, u7, .int .i64 (k : Int), u9, u10, u11, u12, u13, u14, u15, u16, u17, u18, u19, u20, u21, u22, u23, u24, u25, u26, u27, u28, u29, u30, u31, u32, u33, u34, u35, u36, u37, u38, u39, u40, u41, u42, u43, u44, u45, u46, u47, u48, u49, u50, u51, u52, u53, u54, u55, u56, u57, u58, u59, u60, u61, u62, u63, u64, u65, u66, u67, u68, u69, u70, u71, u72, u73, u74, u75, u76, u77, u78, u79, u80], defers := [] } W := by
  have hsz := hS.size
  simp only [Tryd.f73, Option.map_some, scopeOf, Option.some.injEq] at hc
  subst hc
  refine ⟨_, rfl, ?_⟩
  have hr := hru k W hk
  have hle := Bld.lenOk hB
  have hst := Bld.strOk hB hsz
  have hpl := isPlain_any (runeZ L (k : Int))
  have HB : Hid (Bld w.heap.size w.heap.size W bs) := hB
  have HS : Hid (Stay w W) := hS
  by_cases hkl : k < s.size
  · have hkL : k < L.length := by rw [HLen.out]; exact hkl
    rw [unqP_at _ L k hkL] at hu
    have hrz := runeZ_in hkL
    generalize L[k] = b at hu hrz
    rw [hrz] at hr hpl
    clear hrz hS
    have hb : b.toNat < 256 := UInt8.toNat_lt b
    by_cases hq : b = 34
    · subst hq
      rw [if_pos rfl] at hu
      have HU : Hid (T = (bs, k + 1, true)) := by
        show T = (bs, k + 1, true)
        rw [← HT.out, hu]; simp [fin]
      rw [show ((UInt8.toNat 34 : Nat) : Int) = 34 from rfl] at hr
      clear hu hru hle hpl hB
      go_wp2_with (first
        | (go_at_call 60; refine hr.mono ?_; rintro e w' ⟨rfl, hw'⟩; have hw2 := hw'.symm; subst hw2)
        | (go_at_call 42; refine hst.mono ?_; rintro e w' ⟨rfl, hb2⟩))
      simp only [jumps]
      go_ret3
      exact ⟨by rw [HU.out]; rfl, HS.out.then_below hb2⟩
    · rw [if_neg hq] at hu
      have q34 := byte_ne hq
      rw [show ((UInt8.toNat 34 : Nat) : Int) = 34 from rfl] at q34
      clear hq hst
      by_cases hc : bs.length = 1024
      · rw [if_pos hc, fin_no] at hu
        have HU : Hid (unquoteT L = no k) := hu
        have hcb : ((bs.length : Int) == 1024) = true := by simp; omega
        clear hu hru hpl hB hc
        go_wp2_with (first
          | (go_at_call 60; refine hr.mono ?_; rintro e w' ⟨rfl, hw'⟩; have hw2 := hw'.symm; subst hw2)
          | (go_at_call 76; refine hle.mono ?_; rintro e w' ⟨rfl, hw'⟩; have hw2 := hw'.symm; subst hw2))
        go_step3
        exact ⟨⟨k, bs, ⟨HB.out, HS.out, by omega, by first | omega | (simp; omega), by rw [HL.out]; exact .inr (.inr (.inr ⟨rfl, HU.out⟩))⟩, _, _, _, _, _, _, _, _, _, _, _, _, _, _, _, _, _, _, _, _, _, _, _, _, _, _, _, _, _, _, _, _, _, _, _, _, _, _, _, _, _, _, _, _, _, _, _, _, _, _, _, _, _, _, _, _, _, _, _, _, _, _, _, _, _, _, _, _, _, _, _, _, _, _, _, _, _, _, rfl⟩, by simp [uqM, intOf]; try omega⟩
      · rw [if_neg hc] at hu
        have hcb : ((bs.length : Int) == 1024) = false := by simp; omega
        have hlt : bs.length < 1024 := by omega
        clear hc
        by_cases h92 : b = 92
        · subst h92
          rw [if_pos rfl, fin_skip] at hu
          have HU : Hid (unquoteT L = fin bs (k + 1) (unqE bs.length (L.drop (k + 1)))) := hu
          rw [show ((UInt8.toNat 92 : Nat) : Int) = 92 from rfl] at hr
          clear hu hru hpl hB
          go_wp2_with (first
            | (go_at_call 60; refine hr.mono ?_; rintro e w' ⟨rfl, hw'⟩; have hw2 := hw'.symm; subst hw2)
            | (go_at_call 76; refine hle.mono ?_; rintro e w' ⟨rfl, hw'⟩; have hw2 := hw'.symm; subst hw2))
          go_step3
          exact ⟨⟨k + 1, bs, ⟨HB.out, HS.out, by omega, by first | omega | (simp; omega), by rw [HL.out]; exact .inr (.inl ⟨rfl, hlt, HU.out⟩)⟩, _, _, _, _, _, _, _, _, _, _, _, _, _, _, _, _, _, _, _, _, _, _, _, _, _, _, _, _, _, _, _, _, _, _, _, _, _, _, _, _, _, _, _, _, _, _, _, _, _, _, _, _, _, _, _, _, _, _, _, _, _, _, _, _, _, _, _, _, _, _, _, _, _, _, _, _, _, _, rfl⟩, by simp [uqM, intOf]; try omega⟩
        · rw [if_neg h92] at hu
          have q92 := byte_ne h92
          rw [show ((UInt8.toNat 92 : Nat) : Int) = 92 from rfl] at q92
          clear h92
          by_cases hp : plainZ (b.toNat : Int) = true
          · rw [if_pos hp, fin_put] at hu
            rw [hp] at hpl
            have HU : Hid (unquoteT L = fin (bs ++ [b]) (k + 1) (unqP (bs ++ [b]).length (L.drop (k + 1)))) := by
              show unquoteT L = _
              rw [hu, List.length_append]; rfl
            have hwb := writeByte_any hB b (by omega) hsz
            clear hu hru hp hB
            go_wp2_with (first
              | (go_at_call 60; refine hr.mono ?_; rintro e w' ⟨rfl, hw'⟩; have hw2 := hw'.symm; subst hw2)
              | (go_at_call 76; refine hle.mono ?_; rintro e w' ⟨rfl, hw'⟩; have hw2 := hw'.symm; subst hw2)
              | (go_at_call 54; refine (hpl _).mono ?_; rintro e w' ⟨rfl, hw'⟩; have hw2 := hw'.symm; subst hw2)
              | (go_at_call 40; refine hwb.mono ?_; rintro e w' ⟨rfl, hB2, hb2⟩; have HB2 : Hid (Bld w.heap.size w.heap.size w' (bs ++ [b])) := hB2; have HS2 : Hid (Stay w w') := HS.out.then_below hb2; clear hB2 hb2))
            go_step3
            exact ⟨⟨k + 1, bs ++ [b], ⟨HB2.out, HS2.out, by omega, by first | omega | (simp; omega), by rw [HL.out]; exact .inl ⟨rfl, HU.out⟩⟩, _, _, _, _, _, _, _, _, _, _, _, _, _, _, _, _, _, _, _, _, _, _, _, _, _, _, _, _, _, _, _, _, _, _, _, _, _, _, _, _, _, _, _, _, _, _, _, _, _, _, _, _, _, _, _, _, _, _, _, _, _, _, _, _, _, _, _, _, _, _, _, _, _, _, _, _, _, _, rfl⟩, by simp [uqM, intOf]; try omega⟩
          · rw [if_neg hp, fin_no] at hu
            have HU : Hid (unquoteT L = no k) := hu
            rw [Bool.not_eq_true] at hp
            rw [hp] at hpl
            clear hu hru hp hB
            go_wp2_with (first
              | (go_at_call 60; refine hr.mono ?_; rintro e w' ⟨rfl, hw'⟩; have hw2 := hw'.symm; subst hw2)
              | (go_at_call 76; refine hle.mono ?_; rintro e w' ⟨rfl, hw'⟩; have hw2 := hw'.symm; subst hw2)
              | (go_at_call 54; refine (hpl _).mono ?_; rintro e w' ⟨rfl, hw'⟩; have hw2 := hw'.symm; subst hw2))
            go_step3
            exact ⟨⟨k, bs, ⟨HB.out, HS.out, by omega, by first | omega | (simp; omega), by rw [HL.out]; exact .inr (.inr (.inr ⟨rfl, HU.out⟩))⟩, _, _, _, _, _, _, _, _, _, _, _, _, _, _, _, _, _, _, _, _, _, _, _, _, _, _, _, _, _, _, _, _, _, _, _, _, _, _, _, _, _, _, _, _, _, _, _, _, _, _, _, _, _, _, _, _, _, _, _, _, _, _, _, _, _, _, _, _, _, _, _, _, _, _, _, _, _, _, rfl⟩, by simp [uqM, intOf]; try omega⟩
  · rw [List.drop_eq_nil_of_le (by rw [HLen.out]; omega), unqP, fin_no] at hu
    have HU : Hid (unquoteT L = no k) := hu
    rw [runeZ_out (by rw [HLen.out]; omega)] at hr hpl
    rw [show plainZ (-1) = false from by decide] at hpl
    clear hu hru hS hB hst
    by_cases hc : bs.length = 1024
    · have hcb : ((bs.length : Int) == 1024) = true := by simp; omega
      clear hc
      go_wp2_with (first
        | (go_at_call 60; refine hr.mono ?_; rintro e w' ⟨rfl, hw'⟩; have hw2 := hw'.symm; subst hw2)
        | (go_at_call 76; refine hle.mono ?_; rintro e w' ⟨rfl, hw'⟩; have hw2 := hw'.symm; subst hw2))
      go_step3
      exact ⟨⟨k, bs, ⟨HB.out, HS.out, by omega, by first | omega | (simp; omega), by rw [HL.out]; exact .inr (.inr (.inr ⟨rfl, HU.out⟩))⟩, _, _, _, _, _, _, _, _, _, _, _, _, _, _, _, _, _, _, _, _, _, _, _, _, _, _, _, _, _, _, _, _, _, _, _, _, _, _, _, _, _, _, _, _, _, _, _, _, _, _, _, _, _, _, _, _, _, _, _, _, _, _, _, _, _, _, _, _, _, _, _, _, _, _, _, _, _, _, rfl⟩, by simp [uqM, intOf]; try omega⟩
    · have hcb : ((bs.length : Int) == 1024) = false := by simp; omega
      clear hc
      go_wp2_with (first
        | (go_at_call 60; refine hr.mono ?_; rintro e w' ⟨rfl, hw'⟩; have hw2 := hw'.symm; subst hw2)
        | (go_at_call 76; refine hle.mono ?_; rintro e w' ⟨rfl, hw'⟩; have hw2 := hw'.symm; subst hw2)
        | (go_at_call 54; refine (hpl _).mono ?_; rintro e w' ⟨rfl, hw'⟩; have hw2 := hw'.symm; subst hw2))
      go_step3
      exact ⟨⟨k, bs, ⟨HB.out, HS.out, by omega, by first | omega | (simp; omega), by rw [HL.out]; exact .inr (.inr (.inr ⟨rfl, HU.out⟩))⟩, _, _, _, _, _, _, _, _, _, _, _, _, _, _, _, _, _, _, _, _, _, _, _, _, _, _, _, _, _, _, _, _, _, _, _, _, _, _, _, _, _, _, _, _, _, _, _, _, _, _, _, _, _, _, _, _, _, _, _, _, _, _, _, _, _, _, _, _, _, _, _, _, _, _, _, _, _, _, rfl⟩, by simp [uqM, intOf]; try omega⟩
end Go.Proofs.YtioafeckaeaopaaDoor
