/- remark, blanks. -/
import Derived.Test.YtioafeckaeaopaaDoorXB
import Derived.Test.YtioafeckaeaopaaDoorXS
namespace Go.Proofs.YtioafeckaeaopaaDoor
open Go.RowKit Go.Maps

/-- How many bytes a remark has: up to a byte 10, or to the end. -/
def remarkN : List UInt8 → Nat
  | [] => 0
  | b :: l => if b = 10 then 0 else remarkN l + 1
theorem remarkN_le : ∀ l, remarkN l ≤ l.length
  | [] => by simp [remarkN]
  | b :: l => by
    unfold remarkN
    have := remarkN_le l
    split
    · simp
    · simp; omega
theorem indexByte_remark : ∀ l : List UInt8, (Lib.indexByte l 10 = -1 ∧ remarkN l = l.length) ∨ Lib.indexByte l 10 = (remarkN l : Int)
  | [] => by simp [Lib.indexByte, remarkN]
  | b :: l => by
    unfold Lib.indexByte remarkN
    by_cases hb : b = 10
    · simp [hb]
    · rw [if_neg (by simpa using hb), if_neg hb]
      rcases indexByte_remark l with ⟨h1, h2⟩ | h
      · left; rw [h1]; simp [h2]
      · right
        rw [h, if_neg (by simp)]
        simp
theorem remark_any (s : ByteArray) (w : World) :
    Calls Tryd.prog 67 #[.string s] w fun e w' => e = .returned (.int .i64 (remarkN s.data.toList : Nat)) ∧ w' = w := by
  have hk := Tryd.strings_IndexByte s 10
  rw [show ((10 : Int).toNat.toUInt8) = 10 from rfl] at hk
  rcases indexByte_remark s.data.toList with ⟨h1, h2⟩ | h
  · rw [h1] at hk
    rw [h2]
    have HS : Hid (s.data.toList.length = s.size) := by show s.data.toList.length = s.size; simp
    go_enter Tryd.func67, Tryd.ntmps67
    go_wp2_with (go_at_call 72; refine (hk _).mono ?_; rintro e w' ⟨rfl, rfl⟩)
    go_ret
    exact ⟨by rw [HS.out]; rfl, rfl⟩
  · rw [h] at hk
    generalize remarkN s.data.toList = n at *
    clear h
    go_enter Tryd.func67, Tryd.ntmps67
    go_wp2_with (go_at_call 72; refine (hk _).mono ?_; rintro e w' ⟨rfl, rfl⟩)
    go_ret
    exact ⟨rfl, rfl⟩
end Go.Proofs.YtioafeckaeaopaaDoor
