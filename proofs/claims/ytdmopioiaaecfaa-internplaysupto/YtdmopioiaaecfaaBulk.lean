/- What the bound on the bulk gives; what an argument that is a list of ints is in memory. -/
import Derived.Test.YtdmopioiaaecfaaArgs
import Derived.Test.YtdmopioiaaecfaaSame
import Derived.ChangeSlices
import Derived.JoinedCond
namespace Go.Proofs.Ytdmopioiaaecfaa
open Go.ChangeShapes Go.WideShapes Go.ChangeAt Go.RowKit

section
variable {H : Type}

theorem bulk_one (d : DataW H) : 1 ≤ Rows.uptoBulk d := by
  cases d with
  | lit l => cases l <;> simp [Rows.uptoBulk]
  | _ => simp [Rows.uptoBulk]

theorem bulk_mem {d : DataW H} : ∀ {l : List (DataW H)}, d ∈ l → Rows.uptoBulk d ≤ Rows.uptoBulkAll l
  | [], h => by simp at h
  | x :: r, h => by
    simp only [Rows.uptoBulkAll]
    rcases List.mem_cons.1 h with rfl | h
    · omega
    · have := bulk_mem h; omega

theorem bulk_len : ∀ (l : List (DataW H)), l.length ≤ Rows.uptoBulkAll l
  | [] => by simp
  | x :: r => by have := bulk_len r; have := bulk_one x; simp only [Rows.uptoBulkAll, List.length_cons]; omega

theorem bulk_left : ∀ (l r : List (DataW H)), Rows.uptoBulkAll (l ++ r) = Rows.uptoBulkAll l + Rows.uptoBulkAll r
  | [], r => by simp [Rows.uptoBulkAll]
  | x :: l, r => by have := bulk_left l r; simp only [List.cons_append, Rows.uptoBulkAll]; omega

/-- Of a list of texts. -/
theorem bulk_texts {d : DataW H} {ss rest : List ByteArray} (hx : d = .nil ∧ ss = [] ∨ d = .slice (strs ss) (strs rest)) : ss.length ≤ Rows.uptoBulk d ∧ ∀ s ∈ ss, s.size ≤ Rows.uptoBulk d := by
  rcases hx with ⟨_, rfl⟩ | rfl
  · simp
  · simp only [Rows.uptoBulk]
    have h1 := bulk_len (H := H) (strs ss)
    refine ⟨by simp [strs] at h1 ⊢; omega, fun s hs => ?_⟩
    have hm : (DataW.lit (.string s.data.toList) : DataW H) ∈ strs ss := by
      unfold strs; exact List.mem_map.2 ⟨s, hs, rfl⟩
    have h2 := bulk_mem hm
    simp only [Rows.uptoBulk] at h2
    have h3 : s.data.toList.length = s.size := by rw [Array.length_toList]; rfl
    omega

theorem bulk_ints {d : DataW H} {zs rest : List Int} (hx : d = .nil ∧ zs = [] ∨ d = .slice (lits .i64 zs) (lits .i64 rest)) : zs.length ≤ Rows.uptoBulk d := by
  rcases hx with ⟨_, rfl⟩ | rfl
  · simp
  · simp only [Rows.uptoBulk]
    have h1 := bulk_len (H := H) (lits .i64 zs)
    simp [lits] at h1 ⊢; omega

variable {enc : TypeId × Value → H} {W : World}
theorem open_numbers {a0 : Option Addr} {len cap : Nat} {d : DataW H} {p : List MemPlace} (h : DataW.Trod enc Try.prog W 0 (fun _ => true) true 31 (.slice a0 len cap) d p) :
    ∃ (b off : Nat) (zs rest : List Int), IntsS W a0 b off zs ∧ len = zs.length ∧ (a0 = none → cap = 0 ∧ zs = []) ∧ (d = .nil ∧ zs = [] ∨ d = .slice (lits .i64 zs) (lits .i64 rest)) ∧ ∀ z ∈ zs, -9223372036854775808 ≤ z ∧ z ≤ 9223372036854775807 := by
  obtain ⟨fuel, hf⟩ := h
  rcases open_ints Try.underlying31 Try.underlying3 cells3 hf with ⟨hcs, hx⟩ | ⟨a, len', cap', zs, hcs, _, hl, hm, hz, hx, hcell, hws⟩
  · simp [Value.cells] at hcs
    obtain ⟨rfl, rfl, rfl⟩ := hcs
    simp only [Prod.mk.injEq] at hx
    obtain ⟨rfl, rfl⟩ := hx
    exact ⟨0, 0, [], [], ⟨fun h => absurd h (Nat.lt_irrefl _), fun j hj => by simp at hj⟩, rfl, fun _ => ⟨rfl, rfl⟩, .inl ⟨rfl, rfl⟩, by simp⟩
  · simp [Value.cells] at hcs
    obtain ⟨rfl, rfl, rfl⟩ := hcs
    simp only [Prod.mk.injEq] at hx
    obtain ⟨rfl, rfl⟩ := hx
    simp only [if_true] at hz
    obtain ⟨b, off, spot⟩ := a
    refine ⟨b, off, zs.take len, zs.drop len, ⟨fun h0 => ?_, fun j hj => ?_⟩, by simp; omega, (fun h => nomatch h), .inr rfl, fun z hz => ?_⟩
    · have h1 : 0 < zs.length := by simp at h0; omega
      have hspot : spot = none := by simpa [Addr.add] using World.cell?_spot (hcell 0 h1)
      rw [hspot]
    · have hj2 : j < zs.length := by simp at hj; omega
      have hspot : spot = none := by
        have h1 : 0 < zs.length := by omega
        simpa [Addr.add] using World.cell?_spot (hcell 0 h1)
      subst hspot
      have hc := hcell j hj2
      rw [add_at] at hc
      rw [hc]
      simp [hj2]
    · have := hws z (List.mem_of_mem_take hz)
      simpa [Lit.wf, IntKind.min, IntKind.max, IntKind.signed, IntKind.bits] using this
end
end Go.Proofs.Ytdmopioiaaecfaa
