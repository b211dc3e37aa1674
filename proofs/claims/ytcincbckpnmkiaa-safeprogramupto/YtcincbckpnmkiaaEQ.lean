/- What an argument that is a program is in memory, with how long its texts are and how much it is of. -/
import Derived.Test.YtcincbckpnmkiaaEC
import Derived.Test.YtcincbckpnmkiaaDM
namespace Go.Proofs.Ytcincbckpnmkiaa
open Go.ChangeShapes Go.WideShapes Go.ChangeAt Go.RowKit

section
variable {H : Type} {enc0 : TypeId × Value → H} {W : World}
set_option maxRecDepth 100000 in
/-- An argument that is a program. -/
theorem open_prV {v : Value} {d : DataW H} {p : List MemPlace} {base : Nat} (hv : Value.okWide Try.prog W .any base 43 v) (h : DataW.Trod enc0 Try.prog W 0 (fun _ => true) true 43 v d p) (hb : Rows.uptoBulk d ≤ 1048576) :
    ∃ x : Pr, v = x.v ∧ x.In W ∧ x.fair ∧ (∀ r ∈ x.rules, RuB W 1048576 r) ∧ (x.rules.map Ru.mass).sum ≤ 1048576 := by
  obtain ⟨cs, rfl, _⟩ := okWide_struct Try.underlying43 hv
  obtain ⟨fuel, hf⟩ := h
  obtain ⟨y0, y1, y2, m', hy, hl, h0, h1, h2⟩ := Go.Deep.trod_struct3 Try.underlying43 hf
  obtain ⟨ia, ic, ib, io, ins, e0, hR0, hf0, hd0⟩ := open_recs encInpOk Try.underlying40 cIn (fun _ _ => True) (fun m cs y h => open_inp m cs y h) h0
  obtain ⟨oa, oc, ob, oo, outs, e1, hR1, hf1, hd1⟩ := open_recs encOupOk Try.underlying41 cOu (fun _ _ => True) (fun m cs y h => open_oup m cs y h) h1
  obtain ⟨ra, rc, rb, ro, rules, e2, hR2, hf2, hd2⟩ := open_recs encRuOk Try.underlying39 cRu (fun x d => RuZ W x d) (fun m cs y h => open_ruZ m cs y h) h2
  rw [cPr] at hl
  rw [cIs] at e0
  rw [cOs] at e1
  rw [cRs] at e2
  have g0 := read_lenR (fun (_ : Inp) (_ : DataW H) => True) hd0
  have g1 := read_lenR (fun (_ : Oup) (_ : DataW H) => True) hd1
  have g2 := read_lenR _ hd2
  have hbulk : d = .agg [y0.1, y1.1, y2.1] := by rw [Prod.mk.injEq] at hy; exact hy.1
  rw [hbulk] at hb
  simp only [Rows.uptoBulk, Rows.uptoBulkAll] at hb
  have hcs : cs = #[.slice ia ins.length ic, .slice oa outs.length oc, .slice ra rules.length rc] := by
    obtain ⟨l⟩ := cs
    simp [Value.cells] at hl e0 e1 e2
    match l, hl with
    | [c0, c1, c2], _ =>
      simp at e0 e1 e2
      rw [e0, e1, e2]
  have hmem : ∀ r ∈ rules, RuB W 1048576 r := fun r hr => by
    obtain ⟨d9, q1, q7⟩ := bulk_in hd2 hr
    exact RuB.mono q1 (by omega)
  have hsum : (rules.map Ru.mass).sum ≤ 1048576 := by
    rcases hd2 with ⟨_, rfl⟩ | ⟨elems, spare, e, he, hq⟩
    · simp
    · have := bulk_sum Ru.mass rules elems he (fun j hj => by obtain ⟨y, e, q⟩ := hq j hj; exact ⟨y, e, q.mass⟩)
      rw [e] at hb
      simp only [Rows.uptoBulk] at hb
      omega
  exact ⟨⟨ia, ib, io, ic, ins, oa, ob, oo, oc, outs, ra, rb, ro, rc, rules⟩, by rw [hcs]; rfl, ⟨hR0, hR1, hR2, fun r hr => (hmem r hr).ins⟩, ⟨hf0, hf1, hf2, fun r hr => (hmem r hr).fairR, by show ins.length ≤ _; omega, by show outs.length ≤ _; omega, by show rules.length ≤ _; omega⟩, hmem, hsum⟩
end
end Go.Proofs.Ytcincbckpnmkiaa
