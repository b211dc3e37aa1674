/- IndexTexts is true for every list of texts and every list of bools that together are of bulk at most 1048576: a table of texts and lists answers as a plain list of pairs does, and a list comes back as it was handed in. -/
import Derived.Test.YteicdcpkikmjhaaK
import Derived.Test.YteicdcpkikmjhaaMC
import Derived.SliceStrings
import Derived.Deep.Grids
import Derived.JoinedCond
namespace Go.Proofs.Yteicdcpkikmjhaa
open Go.ChangeShapes Go.WideShapes Go.ChangeAt Go.RowKit Go.Proofs.Yteicdcpkikmjhaa.S

theorem cellsS : Try.prog.cellsOf 9 = 1 := by kernel_rfl
theorem cellsB : Try.prog.cellsOf 4 = 1 := by kernel_rfl

section
variable {H : Type} {enc : TypeId × Value → H} {W : World}
theorem bulk_one (d : DataW H) : 1 ≤ Rows.uptoBulk d := by
  cases d with
  | lit l => cases l <;> simp [Rows.uptoBulk]
  | _ => simp [Rows.uptoBulk]
theorem bulk_len : ∀ (l : List (DataW H)), l.length ≤ Rows.uptoBulkAll l
  | [] => by simp
  | x :: r => by have := bulk_len r; have := bulk_one x; simp only [Rows.uptoBulkAll, List.length_cons]; omega
theorem bulk_strs {d : DataW H} {ss rest : List ByteArray} (hx : d = .nil ∧ ss = [] ∨ d = .slice (strs ss) (strs rest)) : ss.length ≤ Rows.uptoBulk d := by
  rcases hx with ⟨_, rfl⟩ | rfl
  · simp
  · simp only [Rows.uptoBulk]
    have h1 := bulk_len (H := H) (strs ss)
    simp [strs] at h1 ⊢; omega

theorem open_texts {a0 : Option Addr} {len cap : Nat} {d : DataW H} {p : List MemPlace} (h : DataW.Trod enc Try.prog W 0 (fun _ => true) true 62 (.slice a0 len cap) d p) :
    ∃ (b off : Nat) (ss rest : List ByteArray), StrsS W a0 b off ss ∧ len = ss.length ∧ (d = .nil ∧ ss = [] ∨ d = .slice (strs ss) (strs rest)) ∧ (∀ s ∈ ss, KeyOk s) := by
  obtain ⟨fuel, hf⟩ := h
  rcases open_strings Try.underlying62 Try.underlying9 cellsS hf with ⟨hcs, hx⟩ | ⟨a, len', cap', ss, hcs, _, hl, hm, hz, hx, hcell, hws⟩
  · simp [Value.cells] at hcs
    obtain ⟨rfl, rfl, rfl⟩ := hcs
    simp only [Prod.mk.injEq] at hx
    obtain ⟨rfl, rfl⟩ := hx
    exact ⟨0, 0, [], [], ⟨fun h => absurd h (Nat.lt_irrefl _), fun j hj => by simp at hj⟩, rfl, .inl ⟨rfl, rfl⟩, fun s hs => by simp at hs⟩
  · simp [Value.cells] at hcs
    obtain ⟨rfl, rfl, rfl⟩ := hcs
    simp only [Prod.mk.injEq] at hx
    obtain ⟨rfl, rfl⟩ := hx
    simp only [if_true] at hz
    obtain ⟨b, off, spot⟩ := a
    refine ⟨b, off, ss.take len, ss.drop len, ⟨fun h0 => ?_, fun j hj => ?_⟩, by simp; omega, .inr rfl, fun s hs => hws s (List.mem_of_mem_take hs)⟩
    · have h1 : 0 < ss.length := by simp at h0; omega
      have hspot : spot = none := by simpa [Addr.add] using World.cell?_spot (hcell 0 h1)
      rw [hspot]
    · have hj2 : j < ss.length := by simp at hj; omega
      have hspot : spot = none := by
        have h1 : 0 < ss.length := by omega
        simpa [Addr.add] using World.cell?_spot (hcell 0 h1)
      subst hspot
      have hc := hcell j hj2
      rw [add_at] at hc
      rw [hc]
      simp [hj2]

theorem open_flags {a0 : Option Addr} {len cap : Nat} {d : DataW H} {p : List MemPlace} (h : DataW.Trod enc Try.prog W 0 (fun _ => true) true 63 (.slice a0 len cap) d p) :
    ∃ (b off : Nat) (bs : List Bool), BoolsS W a0 b off bs ∧ len = bs.length := by
  obtain ⟨fuel, hf⟩ := h
  rcases Go.Deep.open_bools Try.underlying63 Try.underlying4 cellsB hf with ⟨hcs, hx⟩ | ⟨a, len', cap', B, hcs, _, hl, hm, hx, hcell⟩
  · simp [Value.cells] at hcs
    obtain ⟨rfl, rfl, rfl⟩ := hcs
    exact ⟨0, 0, [], ⟨fun h => absurd h (Nat.lt_irrefl _), fun j hj => by simp at hj⟩, rfl⟩
  · simp [Value.cells] at hcs
    obtain ⟨rfl, rfl, rfl⟩ := hcs
    obtain ⟨b, off, spot⟩ := a
    refine ⟨b, off, (List.range len).map B, ⟨fun h0 => ?_, fun j hj => ?_⟩, by simp⟩
    · have h1 : 0 < cap := by simp at h0; omega
      have hspot : spot = none := by simpa [Addr.add] using World.cell?_spot (hcell 0 h1)
      rw [hspot]
    · have hj2 : j < cap := by simp at hj; omega
      have hspot : spot = none := by
        have h1 : 0 < cap := by omega
        simpa [Addr.add] using World.cell?_spot (hcell 0 h1)
      subst hspot
      have hc := hcell j hj2
      rw [add_at] at hc
      rw [hc]
      simp
end

set_option maxRecDepth 100000 in
theorem texts_lifted (os : Os) (started : os.Started) (H : Type) (enc : TypeId × Value → H) (F : Stop.Interp) :
    ReturnsInHanded {} Try.checked os 5 .any ((Rows.OpenSpec.upto Rows.indexTextsSpec).pre6 enc Try.prog Try.f5 Rows.indexTextsUptoRow.domain false) (((Rows.OpenSpec.upto Rows.indexTextsSpec).at F).post enc Try.prog Try.f5 false true false false) := by
  refine returnsInHanded_of_cond (C := Try.checked) (s := Rows.OpenSpec.upto Rows.indexTextsSpec) (k := Rows.uptoSmall) rfl ownKn started (by kernel_rfl) Try.func5
    (OpenSpec.witness (enc := enc) (C := Try.checked) (s := Rows.OpenSpec.upto Rows.indexTextsSpec) (k := Rows.uptoSmall) rfl false ⟨#[], #[.slice none 0 0, .slice none 0 0], []⟩ 8 (by kernel_rfl) (by kernel_rfl) (by kernel_rfl)
      (x := ([.nil, .nil], [], [])) (by kernel_rfl) rfl (by kernel_rfl)) ?_
  intro W base args ds gs before hval0 hW _ hk _
  have hval : ∀ (j : Nat) t v, Try.f5.params[j]? = some t → args[j]? = some v → Value.okWide Try.prog W .any base t v := hval0
  have hW' := hW
  obtain ⟨p, q, hA0, hV, rfl, _, _⟩ := hW
  have hA : DataW.TrodAll enc Try.prog W 0 (fun _ => true) true Try.f5.params.toList args.toList ds p := hA0
  rw [Try.params5] at hA hval
  obtain ⟨v1, vs1, d1, ds1, p1, q1, hargs1, rfl, rfl, h1, r1⟩ := trodAll_cons hA
  obtain ⟨v2, vs2, d2, ds2, p2, q2, hargs2, rfl, rfl, h2, r2⟩ := trodAll_cons r1
  obtain ⟨rfl, rfl, rfl⟩ := trodAll_nil r2
  obtain rfl : args = #[v1, v2] := by cases args; simp_all
  obtain ⟨rfl, rfl⟩ := trodVars_none hV
  obtain ⟨a1, len1, cap1, rfl⟩ := okWide_slice Try.underlying62 (hval 0 62 v1 rfl rfl)
  obtain ⟨a2, len2, cap2, rfl⟩ := okWide_slice Try.underlying63 (hval 1 63 v2 rfl rfl)
  clear hA0 hval0
  simp only [List.append_nil] at hW'
  have hlt : ∀ x ∈ p1 ++ p2, x.block < W.heap.size := fun x hx => by simpa using hW'.lt x (by simpa using hx)
  obtain ⟨b1, off1, ks, rest1, hS1, rfl, hd1, hw1⟩ := open_texts h1
  obtain ⟨b2, off2, gs, hS2, rfl⟩ := open_flags h2
  have hk' : Rows.uptoBulkAll [d1, d2] ≤ 1048576 := by
    have := of_decide_eq_true hk
    simpa using this
  simp only [Rows.uptoBulkAll] at hk'
  have s1 := bulk_strs hd1
  refine (callsIn_wide.1 (texts_any W a1 b1 off1 cap1 ks hS1 hw1 a2 b2 off2 cap2 gs hS2 (by omega))).mono fun e W' ⟨he, bel0⟩ => ?_
  have bel : Below W.heap.size W W' := bel0
  subst he
  exact ⟨_, rfl, _, _, _, [], p1 ++ p2, [], hW', trodAll_mk1 (shut_bool Try.underlying4 _),
    trodAll_cons_mk (Below.trod laidOut (by kernel_rfl) (of_decide_eq_true (by kernel_rfl)) h1 bel (fun x hx => hlt x (by simp [hx]))) (trodAll_mk1 (Below.trod laidOut (by kernel_rfl) (of_decide_eq_true (by kernel_rfl)) h2 bel (fun x hx => hlt x (by simp [hx])))),
    rfl, bel.frame _, fun h => by cases h⟩

theorem indexTexts_holds : Rows.IndexTextsUptoSaid :=
  OpenClaim.holds_of_cond 5 Try.f5 rfl rfl rfl rfl rfl rfl rfl ⟨rfl, rfl, rfl, rfl, rfl⟩ rfl rfl rfl rfl rfl (by kernel_rfl) Try.func5 (by kernel_rfl)
    (of_decide_eq_true (by kernel_rfl)) (by unfold Func.isWrapper; first | (rw [if_pos (by decide +kernel)]; kernel_rfl) | (rw [if_neg (by decide +kernel)]; exact ⟨rfl, rfl⟩))
    (fun os started H enc _ F => texts_lifted os started H enc F)
#print axioms indexTexts_holds
end Go.Proofs.Yteicdcpkikmjhaa
