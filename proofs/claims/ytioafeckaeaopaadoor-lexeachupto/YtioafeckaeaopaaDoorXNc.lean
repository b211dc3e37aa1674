/- unquote, behind a backslash. Written by tools/xn.py. -/
import Derived.Test.YtioafeckaeaopaaDoorXN
namespace Go.Proofs.YtioafeckaeaopaaDoor
open Go.RowKit Go.Maps

set_option maxRecDepth 100000 in
set_option maxHeartbeats 8000000 in
theorem uq_1 {w W : World} {s : ByteArray} {k : Nat} {bs L : List UInt8} {T : R} (HL : Hid (s.data.toList = L)) (_HT : Hid (unquoteT L = T)) (HLen : Hid (L.length = s.size)) (hs : s.size ≤ 140737488355328)
    (hru : ∀ (i : Nat) (W : World), i ≤ s.size → Calls Tryd.prog 60 #[.string s, .int .i64 (i : Int)] W fun e w' => e = .returned (.int .i32 (runeZ L (i : Int))) ∧ w' = W)
    (hB : Bld w.heap.size w.heap.size W bs) (hS : Stay w W) (hk : k ≤ s.size) (hl : bs.length ≤ 1024) (hl2 : bs.length < 1024) (hu : unquoteT L = fin bs k (unqE bs.length (L.drop k))) {u1 u2 u3 u4 u6 u7 u9 u10 u11 u12 u13 u14 u15 u16 u17 u18 u19 u20 u21 u22 u23 u24 u25 u26 u27 u28 u29 u30 u31 u32 u33 u34 u35 u36 u37 u38 u39 u40 u41 u42 u43 u44 u45 u46 u47 u48 u49 u50 u51 u52 u53 u54 u55 u56 u57 u58 u59 u60 u61 u62 u63 u64 u65 u66 u67 u68 u69 u70 u71 u72 u73 u74 u75 u76 u77 u78 u79 u80 : Value} {c : Code} (hc : Tryd.f73.body.map scopeOf = some c) :
    ∃ rest, findLabel c 1 = some (Code.seq .skip rest) ∧ rest.wp Tryd.prog (jumps (fun l' a' w' => uqJ w s l' a' w' ∧ uqM s l' a' w' < uqM s 1 { tmps := #[.string s, u1, u2, u3, u4, .pointer (some ⟨w.heap.size, 0, none⟩), u6, u7, .int .i64 (k : Int), u9, u10, u11, u12, u13, u14, u15, u16, u17, u18, u19, u20, u21, u22, u23, u24, u25, u26, u27, u28, u29, u30, u31, u32, u33, u34, u35, u36, u37, u38, u39, u40, u41, u42, u43, u44, u45, u46, u47, u48, u49, u50, u51, u52, u53, u54, u55, u56, u57, u58, u59, u60, u61, u62, u63, u64, u65, u66, u67, u68, u69, u70, u71, u72, u73, u74, u75, u76, u77, u78, u79, u80], defers := [] } W) (bodyPost Tryd.prog Tryd.f73 fun e w' => e = .returned (.tuple #[.string ⟨T.1.toArray⟩, .int .i64 (T.2.1 : Int), .bool T.2.2]) ∧ Stay w w')) { tmps := #[.string s, u1, u2, u3, u4, .pointer (some ⟨w.heap.size, 0, none⟩), u6, u7, .int .i64 (k : Int), u9, u10, u11, u12, u13, u14, u15, u16, u17, u18, u19, u20, u21, u22, u23, u24, u25, u26, u27, u28, u29, u30, u31, u32, u33, u34, u35, u36, u37, u38, u39, u40, u41, u42, u43, u44, u45, u46, u47, u48, u49, u50, u51, u52, u53, u54, u55, u56, u57, u58, u59, u60, u61, u62, u63, u64, u65, u66, u67, u68, u69, u70, u71, u72, u73, u74, u75, u76, u77, u78, u79, u80], defers := [] } W := by
  have hsz := hS.size
  simp only [Tryd.f73, Option.map_some, scopeOf, Option.some.injEq] at hc
  subst hc
  refine ⟨_, rfl, ?_⟩
  have hr := hru k W hk
  have HB : Hid (Bld w.heap.size w.heap.size W bs) := hB
  have HS : Hid (Stay w W) := hS
  by_cases hkl : k < s.size
  · have hkL : k < L.length := by rw [HLen.out]; exact hkl
    rw [unqE_at _ L k hkL] at hu
    have hrz := runeZ_in hkL
    generalize L[k] = b at hu hrz
    rw [hrz] at hr
    clear hrz hS hru
    have hb : b.toNat < 256 := UInt8.toNat_lt b
    by_cases h34 : b = 34
    · subst h34
      rw [if_pos (by decide), fin_put] at hu
      have HU : Hid (unquoteT L = fin (bs ++ [34]) (k + 1) (unqP (bs ++ [34]).length (L.drop (k + 1)))) := by
        show unquoteT L = _
        rw [hu, List.length_append]; rfl
      have hwb := writeByte_any hB 34 (by omega) hsz
      rw [show ((UInt8.toNat 34 : Nat) : Int) = 34 from rfl] at hr
      rw [show ((UInt8.toNat 34 : Nat) : Int) = 34 from rfl] at hwb
      clear hu hB
      go_wp2_with (first
        | (go_at_call 60; refine hr.mono ?_; rintro e w' ⟨rfl, hw'⟩; have hw2 := hw'.symm; subst hw2)
        | (go_at_call 40; refine hwb.mono ?_; rintro e w' ⟨rfl, hB2, hb2⟩; have HB2 : Hid (Bld w.heap.size w.heap.size w' (bs ++ [34])) := hB2; have HS2 : Hid (Stay w w') := HS.out.then_below hb2; clear hB2 hb2))
      go_step3
      exact ⟨⟨k + 1, bs ++ [34], ⟨HB2.out, HS2.out, by omega, by first | omega | (simp; omega), by rw [HL.out]; exact .inl ⟨rfl, HU.out⟩⟩, _, _, _, _, _, _, _, _, _, _, _, _, _, _, _, _, _, _, _, _, _, _, _, _, _, _, _, _, _, _, _, _, _, _, _, _, _, _, _, _, _, _, _, _, _, _, _, _, _, _, _, _, _, _, _, _, _, _, _, _, _, _, _, _, _, _, _, _, _, _, _, _, _, _, _, _, _, _, rfl⟩, by simp [uqM, intOf]; try omega⟩
    have q34 := byte_ne h34
    rw [show ((UInt8.toNat 34 : Nat) : Int) = 34 from rfl] at q34
    by_cases h92 : b = 92
    · subst h92
      rw [if_pos (by decide), fin_put] at hu
      have HU : Hid (unquoteT L = fin (bs ++ [92]) (k + 1) (unqP (bs ++ [92]).length (L.drop (k + 1)))) := by
        show unquoteT L = _
        rw [hu, List.length_append]; rfl
      have hwb := writeByte_any hB 92 (by omega) hsz
      rw [show ((UInt8.toNat 92 : Nat) : Int) = 92 from rfl] at hr
      rw [show ((UInt8.toNat 92 : Nat) : Int) = 92 from rfl] at hwb
      clear hu hB
      go_wp2_with (first
        | (go_at_call 60; refine hr.mono ?_; rintro e w' ⟨rfl, hw'⟩; have hw2 := hw'.symm; subst hw2)
        | (go_at_call 40; refine hwb.mono ?_; rintro e w' ⟨rfl, hB2, hb2⟩; have HB2 : Hid (Bld w.heap.size w.heap.size w' (bs ++ [92])) := hB2; have HS2 : Hid (Stay w w') := HS.out.then_below hb2; clear hB2 hb2))
      go_step3
      exact ⟨⟨k + 1, bs ++ [92], ⟨HB2.out, HS2.out, by omega, by first | omega | (simp; omega), by rw [HL.out]; exact .inl ⟨rfl, HU.out⟩⟩, _, _, _, _, _, _, _, _, _, _, _, _, _, _, _, _, _, _, _, _, _, _, _, _, _, _, _, _, _, _, _, _, _, _, _, _, _, _, _, _, _, _, _, _, _, _, _, _, _, _, _, _, _, _, _, _, _, _, _, _, _, _, _, _, _, _, _, _, _, _, _, _, _, _, _, _, _, _, rfl⟩, by simp [uqM, intOf]; try omega⟩
    have q92 := byte_ne h92
    rw [show ((UInt8.toNat 92 : Nat) : Int) = 92 from rfl] at q92
    rw [if_neg (not_or.2 ⟨h34, h92⟩)] at hu
    clear h34 h92
    by_cases h110 : b = 110
    · subst h110
      rw [if_pos rfl, fin_put] at hu
      have HU : Hid (unquoteT L = fin (bs ++ [10]) (k + 1) (unqP (bs ++ [10]).length (L.drop (k + 1)))) := by
        show unquoteT L = _
        rw [hu, List.length_append]; rfl
      have hwb := writeByte_any hB 10 (by omega) hsz
      rw [show ((UInt8.toNat 110 : Nat) : Int) = 110 from rfl] at hr
      rw [show ((UInt8.toNat 10 : Nat) : Int) = 10 from rfl] at hwb
      clear hu hB
      go_wp2_with (first
        | (go_at_call 60; refine hr.mono ?_; rintro e w' ⟨rfl, hw'⟩; have hw2 := hw'.symm; subst hw2)
        | (go_at_call 40; refine hwb.mono ?_; rintro e w' ⟨rfl, hB2, hb2⟩; have HB2 : Hid (Bld w.heap.size w.heap.size w' (bs ++ [10])) := hB2; have HS2 : Hid (Stay w w') := HS.out.then_below hb2; clear hB2 hb2))
      go_step3
      exact ⟨⟨k + 1, bs ++ [10], ⟨HB2.out, HS2.out, by omega, by first | omega | (simp; omega), by rw [HL.out]; exact .inl ⟨rfl, HU.out⟩⟩, _, _, _, _, _, _, _, _, _, _, _, _, _, _, _, _, _, _, _, _, _, _, _, _, _, _, _, _, _, _, _, _, _, _, _, _, _, _, _, _, _, _, _, _, _, _, _, _, _, _, _, _, _, _, _, _, _, _, _, _, _, _, _, _, _, _, _, _, _, _, _, _, _, _, _, _, _, _, rfl⟩, by simp [uqM, intOf]; try omega⟩
    rw [if_neg h110] at hu
    have q110 := byte_ne h110
    rw [show ((UInt8.toNat 110 : Nat) : Int) = 110 from rfl] at q110
    clear h110
    by_cases h116 : b = 116
    · subst h116
      rw [if_pos rfl, fin_put] at hu
      have HU : Hid (unquoteT L = fin (bs ++ [9]) (k + 1) (unqP (bs ++ [9]).length (L.drop (k + 1)))) := by
        show unquoteT L = _
        rw [hu, List.length_append]; rfl
      have hwb := writeByte_any hB 9 (by omega) hsz
      rw [show ((UInt8.toNat 116 : Nat) : Int) = 116 from rfl] at hr
      rw [show ((UInt8.toNat 9 : Nat) : Int) = 9 from rfl] at hwb
      clear hu hB
      go_wp2_with (first
        | (go_at_call 60; refine hr.mono ?_; rintro e w' ⟨rfl, hw'⟩; have hw2 := hw'.symm; subst hw2)
        | (go_at_call 40; refine hwb.mono ?_; rintro e w' ⟨rfl, hB2, hb2⟩; have HB2 : Hid (Bld w.heap.size w.heap.size w' (bs ++ [9])) := hB2; have HS2 : Hid (Stay w w') := HS.out.then_below hb2; clear hB2 hb2))
      go_step3
      exact ⟨⟨k + 1, bs ++ [9], ⟨HB2.out, HS2.out, by omega, by first | omega | (simp; omega), by rw [HL.out]; exact .inl ⟨rfl, HU.out⟩⟩, _, _, _, _, _, _, _, _, _, _, _, _, _, _, _, _, _, _, _, _, _, _, _, _, _, _, _, _, _, _, _, _, _, _, _, _, _, _, _, _, _, _, _, _, _, _, _, _, _, _, _, _, _, _, _, _, _, _, _, _, _, _, _, _, _, _, _, _, _, _, _, _, _, _, _, _, _, _, rfl⟩, by simp [uqM, intOf]; try omega⟩
    rw [if_neg h116] at hu
    have q116 := byte_ne h116
    rw [show ((UInt8.toNat 116 : Nat) : Int) = 116 from rfl] at q116
    clear h116
    by_cases h120 : b = 120
    · subst h120
      rw [if_pos rfl, fin_skip] at hu
      have HU : Hid (unquoteT L = fin bs (k + 1) (unqD bs.length (L.drop (k + 1)))) := hu
      rw [show ((UInt8.toNat 120 : Nat) : Int) = 120 from rfl] at hr
      clear hu hB
      go_wp2_with (first
        | (go_at_call 60; refine hr.mono ?_; rintro e w' ⟨rfl, hw'⟩; have hw2 := hw'.symm; subst hw2))
      go_step3
      exact ⟨⟨k + 1, bs, ⟨HB.out, HS.out, by omega, by first | omega | (simp; omega), by rw [HL.out]; exact .inr (.inr (.inl ⟨rfl, hl2, HU.out⟩))⟩, _, _, _, _, _, _, _, _, _, _, _, _, _, _, _, _, _, _, _, _, _, _, _, _, _, _, _, _, _, _, _, _, _, _, _, _, _, _, _, _, _, _, _, _, _, _, _, _, _, _, _, _, _, _, _, _, _, _, _, _, _, _, _, _, _, _, _, _, _, _, _, _, _, _, _, _, _, _, rfl⟩, by simp [uqM, intOf]; try omega⟩
    rw [if_neg h120, fin_no] at hu
    have q120 := byte_ne h120
    rw [show ((UInt8.toNat 120 : Nat) : Int) = 120 from rfl] at q120
    have HU : Hid (unquoteT L = no k) := hu
    clear hu hB h120
    go_wp2_with (first
      | (go_at_call 60; refine hr.mono ?_; rintro e w' ⟨rfl, hw'⟩; have hw2 := hw'.symm; subst hw2))
    go_step3
    exact ⟨⟨k, bs, ⟨HB.out, HS.out, by omega, by first | omega | (simp; omega), by rw [HL.out]; exact .inr (.inr (.inr ⟨rfl, HU.out⟩))⟩, _, _, _, _, _, _, _, _, _, _, _, _, _, _, _, _, _, _, _, _, _, _, _, _, _, _, _, _, _, _, _, _, _, _, _, _, _, _, _, _, _, _, _, _, _, _, _, _, _, _, _, _, _, _, _, _, _, _, _, _, _, _, _, _, _, _, _, _, _, _, _, _, _, _, _, _, _, _, rfl⟩, by simp [uqM, intOf]; try omega⟩
  · rw [List.drop_eq_nil_of_le (by rw [HLen.out]; omega), unqE, fin_no] at hu
    have HU : Hid (unquoteT L = no k) := hu
    rw [runeZ_out (by rw [HLen.out]; omega)] at hr
    clear hu hru hS hB
    go_wp2_with (first
      | (go_at_call 60; refine hr.mono ?_; rintro e w' ⟨rfl, hw'⟩; have hw2 := hw'.symm; subst hw2))
    go_step3
    exact ⟨⟨k, bs, ⟨HB.out, HS.out, by omega, by first | omega | (simp; omega), by rw [HL.out]; exact .inr (.inr (.inr ⟨rfl, HU.out⟩))⟩, _, _, _, _, _, _, _, _, _, _, _, _, _, _, _, _, _, _, _, _, _, _, _, _, _, _, _, _, _, _, _, _, _, _, _, _, _, _, _, _, _, _, _, _, _, _, _, _, _, _, _, _, _, _, _, _, _, _, _, _, _, _, _, _, _, _, _, _, _, _, _, _, _, _, _, _, _, _, rfl⟩, by simp [uqM, intOf]; try omega⟩
end Go.Proofs.YtioafeckaeaopaaDoor
