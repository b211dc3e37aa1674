/- WriteString, writePiece, Constant, Quote. -/
import Derived.Test.YtiobhadchakoiaaGreatDoorXJ
namespace Go.Proofs.YtiobhadchakoiaaGreatDoor
open Go.RowKit Go.Maps

def hexs : List UInt8 := [48, 49, 50, 51, 52, 53, 54, 55, 56, 57, 97, 98, 99, 100, 101, 102]
theorem byte_ne {b c : UInt8} (h : b ≠ c) : ((b.toNat : Int) == (c.toNat : Int)) = false := by
  simp only [beq_eq_false_iff_ne, ne_eq]
  intro e
  exact h (UInt8.toNat_inj.1 (by omega))
theorem Bld.strOk {B b : Nat} {w : World} {bs : List UInt8} (h : Bld B b w bs) (hB : B ≤ w.heap.size) : Calls Tryz.prog 24 #[.pointer (some ⟨b, 0, none⟩)] w fun e w' => e = .returned (.string ⟨bs.toArray⟩) ∧ Below B w w' :=
  (Tryz.Builder_String_any B b bs w h hB).mono fun _ _ h => ⟨h.1, by first | exact h.2.2 | exact h.2.2.1 | exact h.2⟩
theorem Bld.drewN {B b : Nat} {w : World} {bs : List UInt8} (h : Bld B b w bs) (n : Nat) : Bld B b (w.drewN n) bs := h
theorem Stay.then_below {w W W' : World} (h : Stay w W) (k : Below w.heap.size W W') : Stay w W' := Below.trans h k


set_option maxRecDepth 100000 in
set_option maxHeartbeats 2000000 in
theorem writeString_any {B b : Nat} {w : World} {bs : List UInt8} (h : Bld B b w bs) (s : ByteArray) (hlen : bs.length + s.size ≤ 140737488355328) (hBw : B ≤ w.heap.size) :
    Calls Tryz.prog 42 #[.pointer (some ⟨b, 0, none⟩), .string s] w fun e w' => e = .returned (.tuple #[.int .i64 (s.size : Int), .nilIface]) ∧ Bld B b w' (bs ++ s.data.toList) ∧ Below B w w' := by
  obtain ⟨i0, hi, hz0, hz1, hz2⟩ := info_parts infoU8
  have hck := check_any h
  have HZ : Hid (Lib.byteCells (bs ++ s.data.toList) = Lib.byteCells bs ++ Lib.strCells s) := by
    show Lib.byteCells (bs ++ s.data.toList) = _
    rw [byteCells_app]; rfl
  clear h
  go_enter Tryz.func42, Tryz.ntmps42
  go_wp2_with (go_at_call 59; refine hck.mono ?_)
  rintro e w1 ⟨rfl, h1, hb1⟩
  obtain ⟨hB, v, hbk, hown, hne⟩ := h1
  have c0 : w1.cell? ⟨b, 0, none⟩ = some (.pointer (some ⟨b, 0, none⟩)) := by rw [Lib.cell_of_heap hbk]; rfl
  have c1 : w1.cell? ⟨b, 1, none⟩ = some v := by rw [Lib.cell_of_heap hbk]; rfl
  have hs1 := hb1.size
  rw [Lib.byteCells_length] at hown
  clear hck
  go_wp2_with (at_builtin; refine Lib.wpList_append_own_string _ rfl _ _ 64 9 rfl B 5 i0 Tryz.underlying64 Tryz.underlying9 hi hz0 hz1 hz2 _ _ _ rfl hown s rfl (by unfold maxLen; omega) hlen (by omega) ?_)
  intro v' w2 hown' hgrow _
  have hlt : b < w1.heap.size := (Array.getElem?_eq_some_iff.1 hbk).1
  have hb2 : w2.heap[b]? = some (.cells #[.pointer (some ⟨b, 0, none⟩), v] 72 (0, 0)) := by
    rw [hgrow.block b hlt (fun e => hne e.symm)]
    exact hbk
  have d0 : w2.cell? ⟨b, 0, none⟩ = some (.pointer (some ⟨b, 0, none⟩)) := by rw [Lib.cell_of_heap hb2]; rfl
  have d1 : w2.cell? ⟨b, 1, none⟩ = some v := by rw [Lib.cell_of_heap hb2]; rfl
  have f1 : w2.frozen? ⟨b, 1, none⟩ = false := Lib.frozen_of_heap hb2 1
  obtain ⟨ao, n', cap, rfl⟩ : ∃ ao n' cap, v' = .slice ao n' cap := by
    rcases hown'.2 with ⟨hv, _⟩ | ⟨g, cap, cur, hv, _⟩
    · exact ⟨_, _, _, hv⟩
    · exact ⟨_, _, _, hv⟩
  have HO : Hid (Bld B b (w2.setCell ⟨b, 1, none⟩ (.slice ao n' cap)) (bs ++ s.data.toList)) :=
    .inr (Lib.BuilderAt.put hB hb2 (by rw [show (Lib.byteCells (bs ++ s.data.toList)).length = bs.length + s.size by rw [Lib.byteCells_length]; simp, HZ.out]; exact hown') (by decide))
  have HB : Hid (Below B w (w2.setCell ⟨b, 1, none⟩ (.slice ao n' cap))) :=
    (hb1.grown hgrow (by omega) (fun k hk => (hown.lt k hk).1)).setCell (p := ⟨b, 1, none⟩) hB _
  clear hown' hgrow hown
  go_wp2
  go_ret2
  exact ⟨rfl, HO.out, HB.out⟩

/-- The piece by which a byte is told. -/
def pieceL (b : UInt8) : List UInt8 := if b = 34 ∨ b = 92 then [92, b] else if b = 10 then [92, 110] else if b = 9 then [92, 116] else if plainZ (b.toNat : Int) then [b] else [92, 120, hexs.getD (b.toNat / 16) 0, hexs.getD (b.toNat % 16) 0]
theorem pieceL_len (b : UInt8) : 1 ≤ (pieceL b).length ∧ (pieceL b).length ≤ 4 := by
  unfold pieceL
  repeat' split
  all_goals simp
def quoteL (l : List UInt8) : List UInt8 := 34 :: (l.flatMap pieceL ++ [34])
theorem pieces_len (l : List UInt8) : (l.flatMap pieceL).length ≤ l.length * 4 := by
  induction l with
  | nil => simp
  | cons b l ih => have := pieceL_len b; rw [List.flatMap_cons, List.length_append, List.length_cons]; omega

theorem shr4 (n : Nat) : (n : Int) / 16 = ((n / 16 : Nat) : Int) := by omega
set_option maxRecDepth 100000 in
theorem and15 : ∀ n : Fin 256, bits BinOp.and IntKind.u8 (n.val : Int) 15 = ((n.val % 16 : Nat) : Int) := by decide
theorem hexIx (i : Nat) (h : i < (⟨#[48, 49, 50, 51, 52, 53, 54, 55, 56, 57, 97, 98, 99, 100, 101, 102]⟩ : ByteArray).size) : (⟨#[48, 49, 50, 51, 52, 53, 54, 55, 56, 57, 97, 98, 99, 100, 101, 102]⟩ : ByteArray)[i] = hexs.getD i 0 := by
  match i, h with
  | 0, _ => rfl
  | 1, _ => rfl
  | 2, _ => rfl
  | 3, _ => rfl
  | 4, _ => rfl
  | 5, _ => rfl
  | 6, _ => rfl
  | 7, _ => rfl
  | 8, _ => rfl
  | 9, _ => rfl
  | 10, _ => rfl
  | 11, _ => rfl
  | 12, _ => rfl
  | 13, _ => rfl
  | 14, _ => rfl
  | 15, _ => rfl
  | n + 16, h => exact absurd h (by show ¬ n + 16 < 16; omega)

set_option maxRecDepth 100000 in
set_option maxHeartbeats 2000000 in
theorem writePiece_any {B b : Nat} {w : World} {bs : List UInt8} (h : Bld B b w bs) (c : UInt8) (hlen : bs.length + 4 ≤ 140737488355328) (hBw : B ≤ w.heap.size) :
    Calls Tryz.prog 73 #[.pointer (some ⟨b, 0, none⟩), .int .u8 (c.toNat : Int)] w fun e w' => e = .returned (.tuple #[]) ∧ Bld B b w' (bs ++ pieceL c) ∧ Below B w w' := by
  have hc : c.toNat < 256 := UInt8.toNat_lt c
  have hpl := fun W => isPlain_any (c.toNat : Int) W
  have hw32 : wrap32 (c.toNat : Int) = (c.toNat : Int) := by unfold wrap32; omega
  by_cases h34 : c = 34
  · subst h34
    rw [show pieceL 34 = [92, 34] from rfl]
    rw [show ((UInt8.toNat 34 : Nat) : Int) = 34 from rfl]
    have w1 := writeByte_any h 92 (by omega) hBw
    rw [show ((UInt8.toNat 92 : Nat) : Int) = 92 from rfl] at w1
    clear hpl hw32
    go_enter Tryz.func73, Tryz.ntmps73
    go_wp2_with fail
    refine w1.mono ?_
    rintro e W1 ⟨rfl, hB1, hb1⟩
    have w2 := writeByte_any hB1 34 (by simp; omega) (Nat.le_trans hBw hb1.size)
    rw [show ((UInt8.toNat 34 : Nat) : Int) = 34 from rfl] at w2
    clear w1
    go_wp2_with fail
    refine w2.mono ?_
    rintro e W2 ⟨rfl, hB2, hb2⟩
    clear w2
    go_wp2
    go_end0
    exact ⟨rfl, by simpa using hB2, hb1.trans hb2⟩
  by_cases h92 : c = 92
  · subst h92
    rw [show pieceL 92 = [92, 92] from rfl]
    rw [show ((UInt8.toNat 92 : Nat) : Int) = 92 from rfl]
    have w1 := writeByte_any h 92 (by omega) hBw
    rw [show ((UInt8.toNat 92 : Nat) : Int) = 92 from rfl] at w1
    clear hpl hw32
    go_enter Tryz.func73, Tryz.ntmps73
    go_wp2_with fail
    refine w1.mono ?_
    rintro e W1 ⟨rfl, hB1, hb1⟩
    have w2 := writeByte_any hB1 92 (by simp; omega) (Nat.le_trans hBw hb1.size)
    rw [show ((UInt8.toNat 92 : Nat) : Int) = 92 from rfl] at w2
    clear w1
    go_wp2_with fail
    refine w2.mono ?_
    rintro e W2 ⟨rfl, hB2, hb2⟩
    clear w2
    go_wp2
    go_end0
    exact ⟨rfl, by simpa using hB2, hb1.trans hb2⟩
  have q34 := byte_ne h34
  have q92 := byte_ne h92
  rw [show ((UInt8.toNat 34 : Nat) : Int) = 34 from rfl] at q34
  rw [show ((UInt8.toNat 92 : Nat) : Int) = 92 from rfl] at q92
  by_cases h10 : c = 10
  · subst h10
    rw [show pieceL 10 = [92, 110] from rfl]
    rw [show ((UInt8.toNat 10 : Nat) : Int) = 10 from rfl]
    have w1 := writeString_any h ⟨#[92, 110]⟩ (by show bs.length + 2 ≤ _; omega) hBw
    clear hpl hw32 q34 q92
    go_enter Tryz.func73, Tryz.ntmps73
    go_wp2_with (go_at_call 42; refine w1.mono ?_; rintro e W1 ⟨rfl, hB1, hb1⟩)
    go_end0
    exact ⟨rfl, hB1, hb1⟩
  by_cases h9 : c = 9
  · subst h9
    rw [show pieceL 9 = [92, 116] from rfl]
    rw [show ((UInt8.toNat 9 : Nat) : Int) = 9 from rfl]
    have w1 := writeString_any h ⟨#[92, 116]⟩ (by show bs.length + 2 ≤ _; omega) hBw
    clear hpl hw32 q34 q92
    go_enter Tryz.func73, Tryz.ntmps73
    go_wp2_with (go_at_call 42; refine w1.mono ?_; rintro e W1 ⟨rfl, hB1, hb1⟩)
    go_end0
    exact ⟨rfl, hB1, hb1⟩
  have q10 := byte_ne h10
  have q9 := byte_ne h9
  rw [show ((UInt8.toNat 10 : Nat) : Int) = 10 from rfl] at q10
  rw [show ((UInt8.toNat 9 : Nat) : Int) = 9 from rfl] at q9
  have hpc : pieceL c = if plainZ (c.toNat : Int) then [c] else [92, 120, hexs.getD (c.toNat / 16) 0, hexs.getD (c.toNat % 16) 0] := by
    unfold pieceL
    rw [if_neg (not_or.2 ⟨h34, h92⟩), if_neg h10, if_neg h9]
  rw [hpc]
  clear hpc h34 h92 h10 h9
  cases hp : plainZ (c.toNat : Int)
  · rw [hp] at hpl
    rw [if_neg (by decide)]
    have i1 : c.toNat / 16 < 16 := by omega
    have i2 : c.toNat % 16 < 16 := by omega
    have a1 := and15 ⟨c.toNat, hc⟩
    dsimp only at a1
    have w1 := fun (W : World) (hW : Bld B b W bs) (hB2 : B ≤ W.heap.size) => writeString_any hW ⟨#[92, 120]⟩ (by show bs.length + 2 ≤ _; omega) hB2
    clear hp
    go_enter Tryz.func73, Tryz.ntmps73
    go_wp2_with (first
      | (go_at_call 82; refine (hpl _).mono ?_; rintro e w' ⟨rfl, hw'⟩; have hw2 := hw'.symm; subst hw2)
      | (go_at_call 42; refine (w1 _ h hBw).mono ?_; rintro e W1 ⟨rfl, hB1, hb1⟩))
    refine (writeByte_any hB1 _ (by simp; omega) (Nat.le_trans hBw hb1.size)).mono ?_
    rintro e W2 ⟨rfl, hB2, hb2⟩
    go_wp2_with fail
    refine (writeByte_any hB2 _ (by simp; omega) (Nat.le_trans hBw (Nat.le_trans hb1.size hb2.size))).mono ?_
    rintro e W3 ⟨rfl, hB3, hb3⟩
    rw [hexIx, hexIx] at hB3
    clear i1 i2 a1
    go_wp2
    go_end0
    exact ⟨rfl, by simpa using hB3, (hb1.trans hb2).trans hb3⟩
  · rw [hp] at hpl
    rw [if_pos rfl]
    have w1 := writeByte_any h c (by omega) hBw
    clear hp
    go_enter Tryz.func73, Tryz.ntmps73
    go_wp2_with (first
      | (go_at_call 82; refine (hpl _).mono ?_; rintro e w' ⟨rfl, hw'⟩; have hw2 := hw'.symm; subst hw2)
      | (go_at_call 44; refine w1.mono ?_; rintro e W1 ⟨rfl, hB1, hb1⟩))
    go_end0
    exact ⟨rfl, hB1, hb1⟩

theorem Constant_any (s : ByteArray) (w : World) : Calls Tryz.prog 46 #[.string s] w fun e w' => e = .returned (.bool (decide (s.data.toList.length ≤ 1024))) ∧ w' = w := by
  rw [show s.data.toList.length = s.size by simp]
  go_enter Tryz.func46, Tryz.ntmps46
  go_wp2
  go_ret
  refine ⟨?_, rfl⟩
  show Ending.returned (Value.bool _) = _
  simp; omega

/-- What Quote answers. -/
def quoteT (l : List UInt8) : List UInt8 × Int := if l.length ≤ 1024 then (quoteL l, 0) else ([], 3)
theorem fresh_bld0 (w : World) : Bld w.heap.size w.heap.size (w.alloc (.cells #[.pointer none, .slice none 0 0] 72)) [] := Lib.fresh_isBuilder 72 5 w

set_option maxRecDepth 100000 in
set_option maxHeartbeats 2000000 in
theorem Quote_any (s : ByteArray) (w : World) :
    Calls Tryz.prog 62 #[.string s] w fun e w' => e = .returned (.tuple #[.string ⟨(quoteT s.data.toList).1.toArray⟩, .int .i64 (quoteT s.data.toList).2]) ∧ Stay w w' := by
  have hcs := Constant_any s
  obtain ⟨L, hL⟩ : ∃ L, s.data.toList = L := ⟨_, rfl⟩
  have hlen : L.length = s.size := by rw [← hL]; simp
  rw [hL] at hcs ⊢
  have HL : Hid (s.data.toList = L) := hL
  clear hL
  unfold quoteT
  by_cases hc : L.length ≤ 1024
  · rw [if_pos hc]
    rw [decide_eq_true hc] at hcs
    obtain ⟨q, hq⟩ : ∃ q, quoteL L = q := ⟨_, rfl⟩
    rw [hq]
    have HQ : Hid (34 :: L.flatMap pieceL ++ [34] = q) := by show 34 :: L.flatMap pieceL ++ [34] = q; rw [← hq]; rfl
    have HP : Hid (∀ k, (L.take k).flatMap pieceL = (L.take k).flatMap pieceL ∧ ((L.take k).flatMap pieceL).length ≤ 4096) := fun k => ⟨rfl, by
      have h1 := pieces_len (L.take k)
      have h2 : (L.take k).length ≤ 1024 := by rw [List.length_take]; omega
      omega⟩
    have HN : Hid (L.length = s.size) := hlen
    have hs : s.size ≤ 1024 := by omega
    clear hq hc hlen
    have w0 := writeByte_any (fresh_bld0 w) 34 (by decide) (by simp)
    rw [show ((UInt8.toNat 34 : Nat) : Int) = 34 from rfl] at w0
    go_enter Tryz.func62, Tryz.ntmps62
    go_wp2_with (first
      | (go_at_call 46; refine (hcs _).mono ?_; rintro e w' ⟨rfl, hw'⟩; have hw2 := hw'.symm; subst hw2)
      | fail)
    refine w0.mono ?_
    rintro e W0 ⟨rfl, hB0, hb0⟩
    have HB0 : Hid (Bld w.heap.size w.heap.size W0 ([] ++ [34]) ∧ Below w.heap.size w W0) := ⟨hB0, Below.trans (Stay.new w _) hb0⟩
    clear w0 hB0 hb0
    go_wp2_with fail
    go_loopw [12, 5] (fun i _u wr => ∃ k : Nat, k ≤ s.size ∧ i = .int .i64 (k : Int) ∧ Bld w.heap.size w.heap.size wr (34 :: (L.take k).flatMap pieceL) ∧ Below w.heap.size w wr) (fun i _u _ => s.size - (intOf i).toNat)
    case atStart => exact ⟨0, Nat.zero_le _, rfl, HB0.out.1, HB0.out.2⟩
    case round =>
      obtain ⟨k, hk, rfl, hBk, hbk⟩ := hrel
      by_cases hlt : k < s.size
      · have hkL : k < L.length := by rw [HN.out]; exact hlt
        have hki : (k : Int) < (s.size : Int) := by omega
        have hwp := writePiece_any hBk s[k] (by have := (HP.out k).2; simp only [List.length_cons]; omega) hbk.size
        have HE : Hid (34 :: (L.take (k + 1)).flatMap pieceL = (34 :: (L.take k).flatMap pieceL) ++ pieceL s[k]) := by
          show 34 :: (L.take (k + 1)).flatMap pieceL = _
          have e1 : L[k] = s[k] := by
            have e0 : s.data.toList[k]'(by rw [HL.out]; exact hkL) = s[k] := rfl
            rw [← e0]
            congr 1
            exact HL.out.symm
          rw [List.take_succ_eq_append_getElem hkL, List.flatMap_append, e1]
          simp
        have HbK : Hid (Below w.heap.size w wr) := hbk
        clear hBk hbk hcs
        go_wp2_with (go_at_call 73; refine hwp.mono ?_; rintro e w1 ⟨rfl, hB1, hb1⟩)
        go_roundw
        case rel => exact ⟨k + 1, by omega, by simp, by rw [HE.out]; exact hB1, Below.trans HbK.out hb1⟩
        case measure => simp [intOf]; omega
      · obtain rfl : k = s.size := by omega
        have hbf : Bld w.heap.size w.heap.size wr (34 :: L.flatMap pieceL) := by
          rw [← HN.out, List.take_length] at hBk; exact hBk
        have w1 := writeByte_any hbf 34 (by have := (HP.out s.size).2; rw [← HN.out, List.take_length] at this; simp only [List.length_cons]; omega) hbk.size
        rw [show ((UInt8.toNat 34 : Nat) : Int) = 34 from rfl] at w1
        have HbK : Hid (Below w.heap.size w wr) := hbk
        clear hBk hbk hcs
        go_wp2_with (first
          | (go_at_call 44; refine w1.mono ?_; rintro e W1 ⟨rfl, hB1, hb1⟩; have w2 := Bld.strOk hB1 (Nat.le_trans HbK.out.size hb1.size); have HB1 : Hid (Below w.heap.size w W1) := Below.trans HbK.out hb1; clear hb1)
          | (go_at_call 24; refine w2.mono ?_; rintro e W2 ⟨rfl, hb2⟩))
        go_ret2
        exact ⟨by rw [← HQ.out]; rfl, Below.trans HB1.out hb2⟩
  · rw [if_neg hc]
    rw [decide_eq_false hc] at hcs
    clear hc hlen
    go_enter Tryz.func62, Tryz.ntmps62
    go_wp2_with (go_at_call 46; refine (hcs _).mono ?_; rintro e w' ⟨rfl, rfl⟩)
    go_ret2
    exact ⟨rfl, Stay.refl _⟩
end Go.Proofs.YtiobhadchakoiaaGreatDoor
