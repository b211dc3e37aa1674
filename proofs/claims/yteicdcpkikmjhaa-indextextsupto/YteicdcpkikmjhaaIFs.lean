/- The functions of a table of texts: weak hashes, equal compares. -/
import Derived.Test.YteicdcpkikmjhaaIDs
namespace Go.Proofs.Yteicdcpkikmjhaa.S
open Go.RowKit Go.Maps Go.Proofs.Yteicdcpkikmjhaa

/-- A text that is not too long. -/
def KeyOk (k : ByteArray) : Prop := k.size ≤ maxLen
def Fns (_w : World) (_fp : Unit) : Prop := True
def fnfoot (_fp : Unit) (_k : Nat) : Prop := False
def hf (_fp : Unit) (s : ByteArray) : Nat := if h : 0 < s.size then (s.size + 4 * s[0].toNat) % 18446744073709551616 else 3
def sm (_fp : Unit) (a b : ByteArray) : Bool := a.toList == b.toList

theorem wrapu (n : Int) : IntKind.u64.wrap n = n % 18446744073709551616 := by simp [IntKind.wrap, IntKind.bits, IntKind.signed]
theorem ret_int {k : IntKind} {a b : Int} (h : a = b) : Ending.returned (.int k a) = .returned (.int k b) := by rw [h]
theorem sm_eq {fp : Unit} {a b : ByteArray} (h : sm fp a b = true) : a = b := by
  unfold sm at h
  rw [beq_iff_eq, ByteArray.toList_eq, ByteArray.toList_eq] at h
  exact ByteArray.ext (Array.ext' h)

section
variable {w w' : World} {fp : Unit}
theorem Fns.turn {S : Nat → Prop} (_h : Fns w fp) (_ht : Turn S w w') (_hn : ∀ k, fnfoot fp k → ¬ S k) : Fns w' fp := trivial
theorem Fns.lt (_h : Fns w fp) (k : Nat) (hk : fnfoot fp k) : k < w.heap.size := hk.elim
theorem hf_lt (fp : Unit) (k : ByteArray) : hf fp k < 18446744073709551616 := by unfold hf; split <;> omega
theorem sm_refl (fp : Unit) (a : ByteArray) : sm fp a a = true := by unfold sm; simp
theorem sm_symm {fp : Unit} {a b : ByteArray} (h : sm fp a b = true) : sm fp b a = true := by rw [sm_eq h]; exact sm_refl _ _
theorem sm_trans {fp : Unit} {a b c : ByteArray} (h : sm fp a b = true) (k : sm fp b c = true) : sm fp a c = true := by rw [sm_eq h]; exact k
theorem sm_hash {fp : Unit} {a b : ByteArray} (h : sm fp a b = true) : hf fp a = hf fp b := by rw [sm_eq h]

theorem hash_any (_h : Fns w fp) (s : ByteArray) (hs : KeyOk s) : Calls Try.prog 25 #[.string s] w fun e w' => e = .returned (.int .u64 (hf fp s : Nat)) ∧ w' = w := by
  unfold KeyOk maxLen at hs
  by_cases h0 : 0 < s.size
  · have he : s.toList.isEmpty = false := by rw [ByteArray.toList_eq, List.isEmpty_eq_false_iff_exists_mem]; exact ⟨s[0], by simp [ByteArray.getElem_eq_getElem_data]⟩
    have HV : Hid (IntKind.u64.wrap ((s.size : Int) + IntKind.u64.wrap (4 * IntKind.u64.wrap (s[0].toNat : Int))) = ((hf fp s : Nat) : Int)) := by
      show IntKind.u64.wrap ((s.size : Int) + IntKind.u64.wrap (4 * IntKind.u64.wrap (s[0].toNat : Int))) = ((hf fp s : Nat) : Int)
      unfold hf
      rw [dif_pos h0, wrapu, wrapu, wrapu]
      have : s[0].toNat < 256 := UInt8.toNat_lt _
      omega
    go_enter Try.func25, Try.ntmps25
    go_wp2
    go_ret
    exact ⟨ret_int HV.out, rfl⟩
  · have he : s.toList.isEmpty = true := by
      rw [ByteArray.toList_eq, List.isEmpty_iff]
      have : s.data.toList.length = 0 := by have : s.size = s.data.toList.length := by simp
                                            omega
      exact List.eq_nil_of_length_eq_zero this
    have hv : hf fp s = 3 := by unfold hf; rw [dif_neg h0]
    rw [hv]
    go_enter Try.func25, Try.ntmps25
    go_wp2
    go_ret
    exact ⟨rfl, rfl⟩

theorem same_any (_h : Fns w fp) (a b : ByteArray) (_ha : KeyOk a) (_hb : KeyOk b) : Calls Try.prog 26 #[.string a, .string b] w fun e w' => e = .returned (.bool (sm fp a b)) ∧ w' = w := by
  go_enter Try.func26, Try.ntmps26
  go_wp2
  go_ret
  exact ⟨rfl, rfl⟩
end
end Go.Proofs.Yteicdcpkikmjhaa.S
