/- hexValue. -/
import Derived.Test.YtioafeckaeaopaaDoorXB
import Derived.Test.YtioafeckaeaopaaDoorXS
import Derived.BigQuiet
import Derived.ScopeJumps
namespace Go.Proofs.YtioafeckaeaopaaDoor
open Go.RowKit Go.Maps

def hexs : List UInt8 := [48, 49, 50, 51, 52, 53, 54, 55, 56, 57, 97, 98, 99, 100, 101, 102]
/-- The value of a digit; -1 of what is none. -/
def hexV (r : Int) : Int := if 48 ≤ r ∧ r ≤ 57 then r - 48 else if 97 ≤ r ∧ r ≤ 102 then r - 87 else -1
set_option maxRecDepth 100000 in
theorem hexV_index : ∀ n : Fin 128, Lib.indexByte hexs n.val.toUInt8 = hexV (n.val : Int) := by decide
theorem validRune_any (r : Int) (w : World) : Calls Tryd.prog 80 #[.int .i32 r] w fun e w' => e = .returned (.bool (Lib.validRune r)) ∧ w' = w := Tryd.utf8_ValidRune r w

set_option maxRecDepth 100000 in
set_option maxHeartbeats 1000000 in
theorem indexRune_neg (w : World) (s : ByteArray) :
    Calls Tryd.prog 79 #[.string s, .int .i32 (-1)] w fun e w' => e = .returned (.int .i64 (-1)) ∧ w' = w := by
  have hv := validRune_any (-1)
  rw [show Lib.validRune (-1) = false from by decide] at hv
  go_enter Tryd.func79, Tryd.ntmps79
  go_wp2_with (go_at_call 80; refine (hv _).mono ?_; rintro e w' ⟨rfl, rfl⟩)
  go_ret
  exact ⟨rfl, rfl⟩
set_option maxRecDepth 100000 in
theorem encode_high : ∀ n : Fin 128, (Utf8.encode (128 + (n.val : Int))).data.toList.length = 2 ∧ 128 ≤ ((Utf8.encode (128 + (n.val : Int))).data.toList.getD 1 0).toNat := by decide
theorem encode_two (r : Int) (h0 : 128 ≤ r) (h1 : r ≤ 255) : ∃ x y : UInt8, Utf8.encode r = ⟨#[x, y]⟩ ∧ 128 ≤ y.toNat := by
  have h := encode_high ⟨(r - 128).toNat, by omega⟩
  dsimp only at h
  rw [show 128 + ((r - 128).toNat : Int) = r by omega] at h
  obtain ⟨h2, h3⟩ := h
  match hq : (Utf8.encode r).data.toList, h2 with
  | [x, y], _ =>
    rw [hq] at h3
    refine ⟨x, y, ?_, h3⟩
    have : (Utf8.encode r).data = #[x, y] := by rw [← Array.toArray_toList (xs := (Utf8.encode r).data), hq]
    exact ByteArray.ext this
theorem index_none (y : UInt8) (hy : 128 ≤ y.toNat) : Lib.indexByte [50, 51, 52, 53, 54, 55, 56, 57, 97, 98, 99, 100, 101, 102] y = -1 := by
  have hn : ∀ b : UInt8, b.toNat < 128 → (b == y) = false := fun b hb => by
    simp only [beq_eq_false_iff_ne, ne_eq]; rintro rfl; omega
  simp [Lib.indexByte, hn]
set_option maxRecDepth 100000 in
set_option maxHeartbeats 1000000 in
theorem indexRune_out (S T : ByteArray) (hS : S.size = 16) (hT : T.size = 2) (h2 : 1 < S.size) (h3 : 1 < T.size) (r : Int) (h0 : 128 ≤ r) (h1 : r ≤ 255) (w : World)
    (hcv : ∀ W : World, (convert 21 9 (.int .i32 r)).run Tryd.prog W = .ok (.string T) W) (hc : ((S[1].toNat : Int) != (T[1].toNat : Int)) = true) (hx : Lib.indexByte (S.extract 2 16).data.toList T[1] = -1) :
    Calls Tryd.prog 79 #[.string S, .int .i32 r] w fun e w' => e = .returned (.int .i64 (-1)) ∧ ∃ n, w' = w.drewN n := by
  have hv := validRune_any r
  rw [show Lib.validRune r = true from by unfold Lib.validRune; simp; omega] at hv
  have hne : (r == 65533) = false := by simp; omega
  have hix := fun W => Tryd.strings_IndexByte (S.extract 2 16) (T[1].toNat : Int) W
  rw [show ((T[1].toNat : Int).toNat.toUInt8) = T[1] by simp, hx] at hix
  clear hx
  have hi2 : (1 : Int) < (S.size : Int) := by omega
  have hi3 : (1 : Int) < (T.size : Int) := by omega
  go_enter Tryd.func79, Tryd.ntmps79
  go_wp2_with (first | (go_at_call 80; refine (hv _).mono ?_; rintro e w' ⟨rfl, rfl⟩) | fail)
  clear hv
  refine wp_scope_straight ?_
  go_wp2_with fail
  go_loopw [9] (fun i wr => i = .int .i64 1 ∧ wr = w') (fun _ _ => 0)
  case atStart => exact ⟨rfl, rfl⟩
  case round =>
    obtain ⟨rfl, rfl⟩ := hrel
    go_wp2_with fail
    refine wp_scope_straight ?_
    go_wp2_with fail
    go_quiet (fail)
    go_wp2_with fail
    have hw2 : IntKind.i64.wrap 2 = 2 := by decide
    have hle : (2 : Int) ≤ (S.size : Int) := by omega
    refine wp_region_quiet_lit (by kernel_rfl) (by kernel_rfl) ?_
    repeat (go_big_quiet_step (first | (go_at_call 72; refine (hix _).mono ?_; rintro _ _ ⟨rfl, rfl⟩; exact ⟨rfl, _, rfl⟩)))
    refine wpQuiet_nil ?_
    intro _ hw'
    obtain ⟨nq, hw''⟩ := hw'
    subst hw''
    go_wp2
    show bodyPost Tryd.prog Tryd.f79 (fun e w' => e = Ending.returned (Value.int IntKind.i64 (-1)) ∧ ∃ n, w' = wr.drewN n) Exit.ret _ _
    go_ret
    exact ⟨rfl, _, rfl⟩

theorem hexDigits_high (r : Int) (h0 : 128 ≤ r) (h1 : r ≤ 255) (w : World) :
    Calls Tryd.prog 79 #[.string ⟨#[48, 49, 50, 51, 52, 53, 54, 55, 56, 57, 97, 98, 99, 100, 101, 102]⟩, .int .i32 r] w fun e w' => e = .returned (.int .i64 (-1)) ∧ ∃ n, w' = w.drewN n := by
  obtain ⟨x, y, he, hy⟩ := encode_two r h0 h1
  refine indexRune_out _ ⟨#[x, y]⟩ rfl rfl (by decide) (Nat.lt_succ_self 1) r h0 h1 w (fun W => by rw [← he]; rfl) ?_ (index_none y hy)
  show ((49 : Int) != (y.toNat : Int)) = true
  simp; omega

set_option maxRecDepth 100000 in
theorem hexValue_any (r : Int) (h0 : -1 ≤ r) (h1 : r ≤ 255) (w : World) :
    Calls Tryd.prog 77 #[.int .i32 r] w fun e w' => e = .returned (.int .i64 (hexV r)) ∧ ∃ n, w' = w.drewN n := by
  have key : ∀ W, Calls Tryd.prog 79 #[.string ⟨#[48, 49, 50, 51, 52, 53, 54, 55, 56, 57, 97, 98, 99, 100, 101, 102]⟩, .int .i32 r] W fun e w' => e = .returned (.int .i64 (hexV r)) ∧ ∃ n, w' = W.drewN n := by
    intro W
    by_cases hn : r < 0
    · obtain rfl : r = -1 := by omega
      refine (indexRune_neg W _).mono ?_
      rintro e w' ⟨rfl, rfl⟩
      exact ⟨rfl, 0, rfl⟩
    · by_cases hh : r < 128
      · refine (Tryd.strings_IndexRune_ascii _ r W (by omega) hh).mono ?_
        rintro e w' ⟨rfl, rfl⟩
        have := hexV_index ⟨r.toNat, by omega⟩
        dsimp only at this
        rw [show ((r.toNat : Nat) : Int) = r by omega] at this
        exact ⟨by rw [← this]; rfl, 0, rfl⟩
      · have hv : hexV r = -1 := by unfold hexV; rw [if_neg (by omega), if_neg (by omega)]
        rw [hv]
        exact hexDigits_high r (by omega) h1 W
  go_enter Tryd.func77, Tryd.ntmps77
  go_wp2_with (go_at_call 79; refine (key _).mono ?_; rintro e w' ⟨rfl, n, rfl⟩)
  go_ret
  exact ⟨rfl, n, rfl⟩
end Go.Proofs.YtioafeckaeaopaaDoor
