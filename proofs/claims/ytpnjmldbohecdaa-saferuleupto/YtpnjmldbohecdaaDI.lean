/- What an argument that is a program is in memory; how much it is of. -/
import Derived.Test.YtpnjmldbohecdaaCQp
import Derived.Test.YtpnjmldbohecdaaBB
import Derived.Deep.Strs
namespace Go.Proofs.Ytpnjmldbohecdaa
open Go.ChangeShapes Go.WideShapes Go.ChangeAt Go.RowKit

theorem cIn : Try.prog.cellsOf 115 = 3 := by kernel_rfl
theorem cOu : Try.prog.cellsOf 117 = 2 := by kernel_rfl
theorem cIs : Try.prog.cellsOf 40 = 1 := by kernel_rfl
theorem cOs : Try.prog.cellsOf 41 = 1 := by kernel_rfl
theorem cRs : Try.prog.cellsOf 39 = 1 := by kernel_rfl
theorem cPr : Try.prog.cellsOf 43 = 3 := by kernel_rfl
theorem cIt : Try.prog.cellsOf 3 = 1 := by kernel_rfl

section
variable {H : Type} {enc0 : TypeId × Value → H} {W : World}
set_option maxRecDepth 100000 in
theorem open_inp (m : Nat) (cs : List Value) (y : DataW H × List MemPlace) (h : DataW.trod enc0 Try.prog W 0 (fun _ => true) true m 115 cs = some y) : ∃ t : Inp, cs = encInp t ∧ True := by
  obtain ⟨y0, y1, y2, m', _, hl, h0, h1, h2⟩ := Go.Deep.trod_struct3 Try.underlying115 h
  rw [cIn] at hl
  match cs, hl with
  | [c0, c1, c2], _ =>
    obtain ⟨x1, e1, _⟩ := DataW.trod_string Try.underlying9 h0
    obtain ⟨x2, e2, _⟩ := DataW.trod_int Try.underlying3 h1
    obtain ⟨x3, e3, _⟩ := DataW.trod_string Try.underlying9 h2
    rw [cSt] at e1 e3
    rw [cIt] at e2
    simp at e1 e2 e3
    exact ⟨⟨x1, x2, x3⟩, by rw [e1, e2, e3]; rfl, trivial⟩
set_option maxRecDepth 100000 in
theorem open_oup (m : Nat) (cs : List Value) (y : DataW H × List MemPlace) (h : DataW.trod enc0 Try.prog W 0 (fun _ => true) true m 117 cs = some y) : ∃ t : Oup, cs = encOup t ∧ True := by
  obtain ⟨y0, y1, m', _, hl, h0, h1⟩ := trod_struct2 Try.underlying117 h
  rw [cOu] at hl
  match cs, hl with
  | [c0, c1], _ =>
    obtain ⟨x1, e1, _⟩ := DataW.trod_string Try.underlying9 h0
    obtain ⟨x2, e2, _⟩ := DataW.trod_int Try.underlying3 h1
    rw [cSt] at e1
    rw [cIt] at e2
    simp at e1 e2
    exact ⟨⟨x1, x2⟩, by rw [e1, e2]; rfl, trivial⟩
theorem read_lenR {α : Type} {xs : List α} {d : DataW H} (Q : α → DataW H → Prop) (h : d = .nil ∧ xs = [] ∨ ∃ elems spare, d = .slice elems spare ∧ elems.length = xs.length ∧ ∀ j (h : j < xs.length), ∃ y, elems[j]? = some y ∧ Q xs[j] y) : xs.length ≤ Rows.uptoBulk d := by
  rcases h with ⟨_, rfl⟩ | ⟨elems, spare, rfl, he, hq⟩
  · simp
  · have := bulk_sum (fun _ : α => 1) xs elems he (fun j hj => by obtain ⟨y, e, _⟩ := hq j hj; exact ⟨y, e, bulkR_one y⟩)
    rw [List.map_const', List.sum_replicate_nat] at this
    simp only [Rows.uptoBulk]
    omega
theorem bulk_in {α : Type} {xs : List α} {d : DataW H} {Q : α → DataW H → Prop} (h : d = .nil ∧ xs = [] ∨ ∃ elems spare, d = .slice elems spare ∧ elems.length = xs.length ∧ ∀ j (h : j < xs.length), ∃ y, elems[j]? = some y ∧ Q xs[j] y) {x : α} (hx : x ∈ xs) : ∃ y, Q x y ∧ Rows.uptoBulk y ≤ Rows.uptoBulk d := by
  obtain ⟨j, hj, rfl⟩ := List.mem_iff_getElem.1 hx
  rcases h with ⟨_, rfl⟩ | ⟨elems, spare, rfl, he, hq⟩
  · simp at hj
  · obtain ⟨y, e, hy⟩ := hq j hj
    refine ⟨y, hy, ?_⟩
    have : ∀ (l : List (DataW H)) (k : Nat), l[k]? = some y → Rows.uptoBulk y ≤ Rows.uptoBulkAll l := by
      intro l
      induction l with
      | nil => intro k hk; simp at hk
      | cons z l ih =>
        intro k hk
        cases k with
        | zero => simp at hk; subst hk; simp only [Rows.uptoBulkAll]; omega
        | succ k => have := ih k (by simpa using hk); simp only [Rows.uptoBulkAll]; omega
    have := this elems j e
    simp only [Rows.uptoBulk]
    omega
/-- What is read of a rule: it lies there, and no list of it is longer than it is of. -/
def RuQ (W : World) (x : Ru) (d : DataW H) : Prop := x.In W ∧ x.head.fair ∧ (x.a = none → x.cap = 0 ∧ x.body = []) ∧ (∀ z ∈ x.body, z.atom.fair ∧ z.atom.ts.length ≤ Rows.uptoBulk d) ∧ x.head.ts.length ≤ Rows.uptoBulk d ∧ x.body.length ≤ Rows.uptoBulk d
set_option maxRecDepth 100000 in
theorem open_rur (m : Nat) (cs : List Value) (y : DataW H × List MemPlace) (h : DataW.trod enc0 Try.prog W 0 (fun _ => true) true m 27 cs = some y) : ∃ x : Ru, cs = encRu x ∧ RuQ W x y.1 := by
  obtain ⟨y0, y1, m', hy, hl, h0, h1⟩ := trod_struct2 Try.underlying27 h
  obtain ⟨x, e0, hq1, hq2, hq3⟩ := open_at _ _ _ h0
  obtain ⟨a0, cap, b, off, xs, e1, hR, hfr, hd⟩ := open_recs encLiOk Try.underlying25 cLi (fun x d => LiQ W x d) (fun m cs y h => open_li m cs y h) h1
  rw [cRu] at hl
  rw [cAt] at e0
  rw [cLs] at e1
  have hlen := read_lenR _ hd
  have hbulk : y.1 = .agg [y0.1, y1.1] := by rw [hy]
  have hmem : ∀ z ∈ xs, z.atom.In W ∧ z.atom.fair ∧ z.atom.ts.length ≤ Rows.uptoBulk y1.1 := by
    intro z hz
    obtain ⟨d, ⟨q1, q2, q3⟩, q4⟩ := bulk_in hd hz
    exact ⟨q1, q2, by omega⟩
  match cs, hl with
  | [c0, c1, c2], _ =>
    simp [encAq] at e0 e1
    refine ⟨⟨x, a0, b, off, cap, xs⟩, by rw [e0.1, e0.2, e1]; rfl, ⟨hq1, hR.lis (fun z hz => (hmem z hz).1)⟩, hq2, hfr, fun z hz => ⟨(hmem z hz).2.1, ?_⟩, ?_, ?_⟩
    · have := (hmem z hz).2.2
      rw [hbulk]; simp only [Rows.uptoBulk, Rows.uptoBulkAll]; omega
    · rw [hbulk]; simp only [Rows.uptoBulk, Rows.uptoBulkAll]
      show x.ts.length ≤ _
      omega
    · rw [hbulk]; simp only [Rows.uptoBulk, Rows.uptoBulkAll]
      show xs.length ≤ _
      omega
set_option maxRecDepth 100000 in
/-- An argument that is a program. -/
theorem open_pr {v : Value} {d : DataW H} {p : List MemPlace} {base : Nat} (hv : Value.okWide Try.prog W .any base 43 v) (h : DataW.Trod enc0 Try.prog W 0 (fun _ => true) true 43 v d p) (hb : Rows.uptoBulk d ≤ 1048576) :
    ∃ x : Pr, v = x.v ∧ x.In W ∧ (x.ia = none → x.ic = 0 ∧ x.ins = []) ∧ (x.oa = none → x.oc = 0 ∧ x.outs = []) ∧ (x.ra = none → x.rc = 0 ∧ x.rules = []) ∧ (∀ r ∈ x.rules, r.fair) ∧ x.ins.length ≤ 1048576 ∧ x.outs.length ≤ 1048576 ∧ x.rules.length ≤ 1048576 := by
  obtain ⟨cs, rfl, _⟩ := okWide_struct Try.underlying43 hv
  obtain ⟨fuel, hf⟩ := h
  obtain ⟨y0, y1, y2, m', hy, hl, h0, h1, h2⟩ := Go.Deep.trod_struct3 Try.underlying43 hf
  obtain ⟨ia, ic, ib, io, ins, e0, hR0, hf0, hd0⟩ := open_recs encInpOk Try.underlying40 cIn (fun _ _ => True) (fun m cs y h => open_inp m cs y h) h0
  obtain ⟨oa, oc, ob, oo, outs, e1, hR1, hf1, hd1⟩ := open_recs encOupOk Try.underlying41 cOu (fun _ _ => True) (fun m cs y h => open_oup m cs y h) h1
  obtain ⟨ra, rc, rb, ro, rules, e2, hR2, hf2, hd2⟩ := open_recs encRuOk Try.underlying39 cRu (fun x d => RuQ W x d) (fun m cs y h => open_rur m cs y h) h2
  rw [cPr] at hl
  rw [cIs] at e0
  rw [cOs] at e1
  rw [cRs] at e2
  have g0 := read_lenR (fun (_ : Inp) (_ : DataW H) => True) hd0
  have g1 := read_lenR (fun (_ : Oup) (_ : DataW H) => True) hd1
  have g2 := read_lenR _ hd2
  have hbulk : d = .agg [y0.1, y1.1, y2.1] := by rw [Prod.mk.injEq] at hy; exact hy.1
  rw [hbulk] at hb
  simp only [Rows.uptoBulk, Rows.uptoBulkAll] at hb
  have hcs : cs = #[.slice ia ins.length ic, .slice oa outs.length oc, .slice ra rules.length rc] := by
    obtain ⟨l⟩ := cs
    simp [Value.cells] at hl e0 e1 e2
    match l, hl with
    | [c0, c1, c2], _ =>
      simp at e0 e1 e2
      rw [e0, e1, e2]
  have hmem : ∀ r ∈ rules, r.In W ∧ r.fair := fun r hr => by
    obtain ⟨d9, ⟨q1, q2, q3, q4, q5, q6⟩, q7⟩ := bulk_in hd2 hr
    exact ⟨q1, q2, by omega, q3, by omega, fun z hz => ⟨(q4 z hz).1, by have := (q4 z hz).2; omega⟩⟩
  exact ⟨⟨ia, ib, io, ic, ins, oa, ob, oo, oc, outs, ra, rb, ro, rc, rules⟩, by rw [hcs]; rfl, ⟨hR0, hR1, hR2, fun r hr => (hmem r hr).1⟩, hf0, hf1, hf2, fun r hr => (hmem r hr).2, by show ins.length ≤ _; omega, by show outs.length ≤ _; omega, by show rules.length ≤ _; omega⟩
end
end Go.Proofs.Ytpnjmldbohecdaa
