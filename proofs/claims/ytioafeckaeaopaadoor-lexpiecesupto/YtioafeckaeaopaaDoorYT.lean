/- Same of two lists that are alike, as a region that draws wants it; a string that is cut. -/
import Derived.Test.YtioafeckaeaopaaDoorYM
namespace Go.Proofs.YtioafeckaeaopaaDoor
open Go.RowKit Go.Maps

set_option maxRecDepth 100000 in
set_option maxHeartbeats 1000000 in
theorem same_drew (w : World) (a1 a2 : Option Addr) (b1 b2 c1 c2 : Nat) (ts : List Tok) (hx : TkS w a1 b1 ts) (hy : TkS w a2 b2 ts) (hl : ts.length ≤ 140737488355328) :
    Calls Tryd.prog 11 #[.slice a1 ts.length c1, .slice a2 ts.length c2] w fun e w' => e = .returned (.bool true) ∧ ∃ m, w' = w.drewN m := by
  have hne : ((ts.length : Int) != (ts.length : Int)) = false := by simp
  have HX : Hid (TkS w a1 b1 ts ∧ TkS w a2 b2 ts) := ⟨hx, hy⟩
  clear hx hy
  go_enter Tryd.func11, Tryd.ntmps11
  go_wp2
  go_loopw [5] (fun i wr => ∃ k : Nat, k ≤ ts.length ∧ i = .int .i64 k ∧ ∃ m, wr = w.drewN m) (fun i _ => ts.length - (intOf i).toNat)
  case atStart => exact ⟨0, Nat.zero_le _, rfl, 0, rfl⟩
  case round =>
    obtain ⟨k, hk, rfl, m, hm⟩ := hrel
    have hst : Stay w wr := by rw [hm]; exact Stay.drewN _ _
    have HM : Hid (wr = w.drewN m) := hm
    clear hm
    by_cases hlt : k < ts.length
    · obtain rfl := HX.out.1.1 (by omega)
      obtain rfl := HX.out.2.1 (by omega)
      obtain ⟨p0, p1, p2, p3⟩ := (HX.out.1.stay hst).2 k hlt
      obtain ⟨q0, q1, q2, q3⟩ := (HX.out.2.stay hst).2 k hlt
      have hi1 : (k : Int) < (ts.length : Int) := by omega
      generalize ts[k] = x at p0 p1 p2 p3 q0 q1 q2 q3
      have hg := guardK
      have hn := neqK0 x
      clear hst
      go_wp2
      go_quiet (fail)
      go_wp2
      go_roundw
      case rel => exact ⟨k + 1, by omega, by go_num, ⟨_, by rw [HM.out, World.drewN_drewN]⟩⟩
      case measure => simp [intOf]; omega
    · go_wp2
      go_ret
      exact ⟨rfl, m, HM.out⟩

theorem cut_string (L : List UInt8) (a b : Nat) : (⟨L.toArray⟩ : ByteArray).extract a b = ⟨((L.drop a).take (b - a)).toArray⟩ := by
  apply ByteArray.ext
  rw [ByteArray.data_extract]
  simp
end Go.Proofs.YtioafeckaeaopaaDoor
