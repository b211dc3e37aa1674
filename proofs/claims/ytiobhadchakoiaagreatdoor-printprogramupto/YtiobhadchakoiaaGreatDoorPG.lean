/- writeQuoted, Quote. -/
import Derived.Test.YtiobhadchakoiaaGreatDoorPI
namespace Go.Proofs.YtiobhadchakoiaaGreatDoor
open Go.RowKit Go.Maps

theorem Bld.stay {B b : Nat} {w w' : World} {bs : List UInt8} (h : Bld B b w bs) (hs : Stay w w') : Bld B b w' bs := by
  have go : ∀ p, Lib.BuilderAt 72 5 B b p (Lib.byteCells bs) w → Lib.BuilderAt 72 5 B b p (Lib.byteCells bs) w' := by
    rintro p ⟨hB, v, hbk, hown, hne⟩
    refine ⟨hB, v, (hs.block b (Array.getElem?_eq_some_iff.1 hbk).1).trans hbk, ?_, hne⟩
    obtain ⟨h1, h2⟩ := hown
    refine ⟨h1, ?_⟩
    rcases h2 with h2 | ⟨g, cap, cur, r1, r2, r3, r4⟩
    · exact .inl h2
    · exact .inr ⟨g, cap, cur, r1, r2, (hs.block g (Array.getElem?_eq_some_iff.1 r3).1).trans r3, r4⟩
  rcases h with h | h
  · exact .inl (go _ h)
  · exact .inr (go _ h)

/-- How long a text in a slot is. -/
def lenOf : Value → Nat
  | .string s => s.size
  | _ => 0

theorem quoteT_small {l : List UInt8} (h : l.length ≤ 1024) : quoteT l = (quoteL l, 0) := by unfold quoteT; rw [if_pos h]
theorem inner {l : List UInt8} {q : ByteArray} (h : q = ⟨(quoteL l).toArray⟩) : (q.extract 1 (q.size - 1)).data.toList = l.flatMap pieceL := by
  subst h
  rw [Lib.extract_data]
  have hs : (⟨(quoteL l).toArray⟩ : ByteArray).size = (l.flatMap pieceL).length + 2 := by
    show (quoteL l).toArray.size = _
    simp [quoteL]
  rw [hs]
  simp [quoteL]

/-- What is behind k bytes of a text. -/
theorem behind {s t : ByteArray} {k m : Nat} (ht : t.data.toList = s.data.toList.drop k) :
    (t.extract 0 m).data.toList = (s.data.toList.drop k).take m ∧ (t.extract m t.size).data.toList = s.data.toList.drop (k + m) := by
  have hl : t.size = (s.data.toList.drop k).length := by rw [← ht]; simp
  constructor
  · rw [Lib.extract_data, ht]; simp
  · rw [Lib.extract_data, ht, hl, List.take_of_length_le (by simp; omega), List.drop_drop]
theorem pieces_on {L : List UInt8} {k m : Nat} : (L.take (k + m)).flatMap pieceL = (L.take k).flatMap pieceL ++ ((L.drop k).take m).flatMap pieceL := by
  rw [List.take_add, List.flatMap_append]

/-- Behind k bytes of a text, the text's own bytes. -/
def Wq (B b : Nat) (w : World) (bs : List UInt8) (s : ByteArray) (v : Value) (W : World) : Prop :=
  ∃ (t : ByteArray) (k : Nat), v = .string t ∧ k ≤ s.data.toList.length ∧ t.data.toList = s.data.toList.drop k ∧ Bld B b W (bs ++ 34 :: (s.data.toList.take k).flatMap pieceL) ∧ Wk B b w W

set_option maxRecDepth 100000 in
set_option maxHeartbeats 2000000 in
theorem writeQuotedK {B b : Nat} {w : World} {bs : List UInt8} (h : Bld B b w bs) (s : ByteArray) (hlen : bs.length + s.size * 4 + 2 ≤ 140737488355328) (hBw : B ≤ w.heap.size) :
    Calls Tryz.prog 47 #[.pointer (some ⟨b, 0, none⟩), .string s] w fun e w' => e = .returned (.tuple #[]) ∧ Bld B b w' (bs ++ quoteL s.data.toList) ∧ Wk B b w w' := by
  have w0 := writeByteK h 34 (by omega) hBw
  rw [show ((UInt8.toNat 34 : Nat) : Int) = 34 from rfl] at w0
  have HP : Hid (∀ k, bs.length + ((s.data.toList.take k).flatMap pieceL).length + 2 ≤ 140737488355328) := fun k => by
    have h1 := pieces_len (s.data.toList.take k)
    have h2 : (s.data.toList.take k).length ≤ s.size := by rw [List.length_take]; simp; omega
    omega
  clear h hlen
  go_enter Tryz.func47, Tryz.ntmps47
  go_wp2_with fail
  refine w0.mono ?_
  rintro e W0 ⟨rfl, hB0, hb0⟩
  have HW0 : Hid (Wq B b w bs s (.string s) W0) := ⟨s, 0, rfl, Nat.zero_le _, by simp, by simpa using hB0, hb0⟩
  clear w0 hB0 hb0
  go_wp2_with fail
  go_loopw [1] (fun v wr => Wq B b w bs s v wr) (fun v _ => lenOf v)
  case atStart => exact HW0.out
  case round =>
    obtain ⟨t, k, rfl, hk, ht, hBk, hbk⟩ := hrel
    clear HW0
    by_cases h0 : 0 < t.size
    · have h0i : (0 : Int) < (t.size : Int) := by omega
      obtain ⟨m, hm, hm1, hm2, hm3⟩ : ∃ m : Nat, min ((t.size : Nat) : Int) 1024 = (m : Int) ∧ m ≤ 1024 ∧ m ≤ t.size ∧ 0 < m := by
        by_cases hc : t.size ≤ 1024
        · exact ⟨t.size, by omega, by omega, Nat.le_refl _, h0⟩
        · exact ⟨1024, by omega, by omega, by omega, by omega⟩
      obtain ⟨hb1, hb2⟩ := behind (m := m) ht
      have hq0 := Quote_any (t.extract 0 m) wr
      rw [hb1, quoteT_small (by rw [List.length_take]; omega)] at hq0
      obtain ⟨q, hq⟩ : ∃ q : ByteArray, q = ⟨(quoteL ((s.data.toList.drop k).take m)).toArray⟩ := ⟨_, rfl⟩
      dsimp only at hq0
      rw [← hq] at hq0
      have hin := inner hq
      have hqs : q.size = (((s.data.toList.drop k).take m).flatMap pieceL).length + 2 := by
        rw [hq]
        show (quoteL ((s.data.toList.drop k).take m)).toArray.size = _
        simp [quoteL]
      have hqm := pieces_len ((s.data.toList.drop k).take m)
      have hqm2 : ((s.data.toList.drop k).take m).length ≤ 1024 := by rw [List.length_take]; omega
      have hq2 : 2 ≤ q.size := by omega
      have hq3 : q.size ≤ 4098 := by omega
      have HX : Hid ((q.extract 1 (q.size - 1)).data.toList = ((s.data.toList.drop k).take m).flatMap pieceL ∧ (q.extract 1 (q.size - 1)).size = (((s.data.toList.drop k).take m).flatMap pieceL).length) := ⟨hin, by rw [← hin]; simp⟩
      have hws := fun (W : World) (hW : Stay wr W) => writeStringK (hBk.stay hW) (q.extract 1 (q.size - 1)) (by
        have h1 := HP.out (k + m)
        rw [pieces_on, List.length_append] at h1
        rw [HX.out.2, List.length_append, List.length_cons]; omega) (Nat.le_trans hBw (Nat.le_trans hbk.size hW.size))
      have hBr : B ≤ wr.heap.size := Nat.le_trans hBw hbk.size
      have hi1 : (1 : Int) ≤ (q.size : Int) - 1 := by omega
      have hmi : (m : Int) ≤ (t.size : Int) := by omega
      have HR : Hid (k + m ≤ s.data.toList.length ∧ (t.extract m t.size).data.toList = s.data.toList.drop (k + m) ∧ (t.extract m t.size).size < t.size ∧ Wk B b w wr) := by
        have hl : t.size = s.data.toList.length - k := by rw [← List.length_drop, ← ht]; simp
        refine ⟨by omega, hb2, ?_, hbk⟩
        rw [show (t.extract m t.size).size = (t.extract m t.size).data.toList.length by simp, hb2, List.length_drop]
        omega
      clear hBk hbk hb1 hb2 hq hin hqs hqm hqm2 ht
      go_wp2_with (first
        | (go_at_call 62; refine hq0.mono ?_; rintro e W1 ⟨rfl, hs1⟩; have hw1 := hws W1 hs1; clear hws)
        | (go_at_call 42; refine hw1.mono ?_; rintro e W2 ⟨rfl, hB2, hb2⟩))
      go_roundw
      case rel =>
        refine ⟨_, k + m, rfl, HR.out.1, HR.out.2.1, ?_, Wk.trans HR.out.2.2.2 (Wk.trans ?_ hb2)⟩
        · rw [pieces_on]
          rw [HX.out.1] at hB2
          simpa using hB2
        · exact Wk.of_stay hs1 hBr
      case measure => simpa [lenOf] using HR.out.2.2.1
    · have ht0 : t.size = 0 := by omega
      have hl : t.size = s.data.toList.length - k := by rw [← List.length_drop, ← ht]; simp
      have hbf : Bld B b wr (bs ++ 34 :: s.data.toList.flatMap pieceL) := by
        have : s.data.toList.take k = s.data.toList := List.take_of_length_le (by omega)
        rw [this] at hBk; exact hBk
      have w1 := writeByteK hbf 34 (by have := HP.out s.data.toList.length; rw [List.take_length] at this; rw [List.length_append, List.length_cons]; omega) (Nat.le_trans hBw hbk.size)
      rw [show ((UInt8.toNat 34 : Nat) : Int) = 34 from rfl] at w1
      have HbK : Hid (Wk B b w wr) := hbk
      have h0i : ¬ (0 : Int) < (t.size : Int) := by omega
      clear hBk hbk ht hl ht0
      go_wp2_with (first
        | (go_at_call 44; refine w1.mono ?_; rintro e W1 ⟨rfl, hB1, hb1⟩))
      go_end0
      exact ⟨rfl, by simpa [quoteL] using hB1, Wk.trans HbK.out hb1⟩
end Go.Proofs.YtiobhadchakoiaaGreatDoor
