/- What terms, atoms, literals, rules, programs of an argument are in memory, how long their texts are, how much they are of. -/
import Derived.Test.YtpnjmldbohecdaaDI
namespace Go.Proofs.Ytpnjmldbohecdaa
open Go.ChangeShapes Go.WideShapes Go.ChangeAt Go.RowKit

def Li.mass (l : Li) : Nat := l.atom.ts.length + 3
def Ru.mass (x : Ru) : Nat := x.head.ts.length + (x.body.map Li.mass).sum + 1
/-- A literal that lies there, no part of it longer than n. -/
structure LiB (W : World) (n : Nat) (l : Li) : Prop where
  ins : l.atom.In W
  fair : l.atom.fair
  few : l.atom.ts.length ≤ n
  texts : ∀ t ∈ l.atom.ts, t.text.size ≤ n
  left : l.left.text.size ≤ n
  right : l.right.text.size ≤ n
  wf : (Lit.int .i64 l.kind).wf = true
theorem LiB.mono {W : World} {n m : Nat} {l : Li} (h : LiB W n l) (hm : n ≤ m) : LiB W m l :=
  ⟨h.ins, h.fair, Nat.le_trans h.few hm, fun t ht => Nat.le_trans (h.texts t ht) hm, Nat.le_trans h.left hm, Nat.le_trans h.right hm, h.wf⟩
/-- A rule that lies there, no part of it longer than n, all its lists together not longer either. -/
structure RuB (W : World) (n : Nat) (x : Ru) : Prop where
  ins : x.In W
  fair : x.head.fair
  fairs : x.a = none → x.cap = 0 ∧ x.body = []
  texts : ∀ t ∈ x.head.ts, t.text.size ≤ n
  lits : ∀ l ∈ x.body, LiB W n l
  mass : x.mass ≤ n
theorem RuB.mono {W : World} {n m : Nat} {x : Ru} (h : RuB W n x) (hm : n ≤ m) : RuB W m x :=
  ⟨h.ins, h.fair, h.fairs, fun t ht => Nat.le_trans (h.texts t ht) hm, fun l hl => (h.lits l hl).mono hm, Nat.le_trans h.mass hm⟩
theorem mass_len : ∀ (ls : List Li), ls.length * 3 ≤ (ls.map Li.mass).sum
  | [] => by simp
  | l :: ls => by
    have := mass_len ls
    simp only [List.length_cons, List.map_cons, List.sum_cons, Li.mass] at *
    omega
theorem RuB.fairR {W : World} {x : Ru} (h : RuB W 1048576 x) : x.fair := by
  have h1 := h.mass
  have h2 := mass_len x.body
  unfold Ru.mass at h1
  exact ⟨h.fair, by omega, h.fairs, by omega, fun l hl => ⟨(h.lits l hl).fair, by have := (h.lits l hl).few; omega⟩⟩

section
variable {H : Type} {enc0 : TypeId × Value → H} {W : World}
theorem bulk_text (s : ByteArray) : Rows.uptoBulk (H := H) (.lit (.string s.data.toList)) = s.size + 1 := by
  simp only [Rows.uptoBulk, Array.length_toList]
  rfl
def TmZ (t : Tm) (d : DataW H) : Prop := t.text.size + 1 ≤ Rows.uptoBulk d
set_option maxRecDepth 100000 in
theorem open_tmZ (m : Nat) (cs : List Value) (y : DataW H × List MemPlace) (h : DataW.trod enc0 Try.prog W 0 (fun _ => true) true m 51 cs = some y) : ∃ t : Tm, cs = encTm t ∧ TmZ t y.1 := by
  obtain ⟨y0, y1, m', hy, hl, h0, h1⟩ := trod_struct2 Try.underlying51 h
  rw [cTm] at hl
  match cs, hl with
  | [c0, c1], _ =>
    obtain ⟨x1, e1, _⟩ := DataW.trod_bool Try.underlying4 h0
    obtain ⟨x2, e2, e3, _⟩ := DataW.trod_string Try.underlying9 h1
    rw [cBo] at e1
    rw [cSt] at e2
    simp at e1 e2
    refine ⟨⟨x1, x2⟩, by rw [e1, e2]; rfl, ?_⟩
    unfold TmZ
    rw [hy, e3]
    simp only [Rows.uptoBulk, Rows.uptoBulkAll, Array.length_toList]
    show x2.size + 1 ≤ _
    have : x2.data.size = x2.size := rfl
    omega
def AtZ (W : World) (x : At) (d : DataW H) : Prop := x.In W ∧ x.fair ∧ x.ts.length + 1 ≤ Rows.uptoBulk d ∧ ∀ t ∈ x.ts, t.text.size + 1 ≤ Rows.uptoBulk d
set_option maxRecDepth 100000 in
theorem open_atZ (m : Nat) (cs : List Value) (y : DataW H × List MemPlace) (h : DataW.trod enc0 Try.prog W 0 (fun _ => true) true m 24 cs = some y) : ∃ x : At, cs = encAq x ∧ AtZ W x y.1 := by
  obtain ⟨y0, y1, m', hy, hl, h0, h1⟩ := trod_struct2 Try.underlying24 h
  rw [cAt] at hl
  match cs, hl with
  | [c0, c1], _ =>
    obtain ⟨p, e1, _⟩ := DataW.trod_string Try.underlying9 h0
    obtain ⟨a0, cap, b, off, xs, e2, hR, hf, hd⟩ := open_recs encTmOk Try.underlying22 cTm TmZ (fun m cs y h => open_tmZ m cs y h) h1
    rw [cSt] at e1
    rw [cTs] at e2
    simp at e1 e2
    have hb := read_lenR TmZ hd
    have hbulk : Rows.uptoBulk y.1 = Rows.uptoBulk y0.1 + (Rows.uptoBulk y1.1 + 0) + 1 := by
      rw [hy]; simp only [Rows.uptoBulk, Rows.uptoBulkAll]
    refine ⟨⟨p, a0, b, off, cap, xs⟩, by rw [e1, e2]; rfl, hR.tms, hf, ?_, fun t ht => ?_⟩
    · show xs.length + 1 ≤ _
      omega
    · obtain ⟨d, q1, q2⟩ := bulk_in hd ht
      unfold TmZ at q1
      omega
def LiZ (W : World) (x : Li) (d : DataW H) : Prop := LiB W (Rows.uptoBulk d) x ∧ x.mass ≤ Rows.uptoBulk d
set_option maxRecDepth 100000 in
theorem open_liZ (m : Nat) (cs : List Value) (y : DataW H × List MemPlace) (h : DataW.trod enc0 Try.prog W 0 (fun _ => true) true m 53 cs = some y) : ∃ x : Li, cs = encLi x ∧ LiZ W x y.1 := by
  obtain ⟨y0, y1, y2, y3, m', hy, hl, h0, h1, h2, h3⟩ := Go.Joins.trod_struct4 Try.underlying53 h
  rw [cLi] at hl
  match cs, hl with
  | [c0, c1, c2, c3, c4, c5, c6], _ =>
    obtain ⟨k, e0, _, hwf⟩ := DataW.trod_int Try.underlying49 h0
    obtain ⟨x, e1, hq1, hq2, hq3, hq4⟩ := open_atZ _ _ _ h1
    obtain ⟨l, e2, hl2⟩ := open_tmZ _ _ _ h2
    obtain ⟨r, e3, hr2⟩ := open_tmZ _ _ _ h3
    rw [cKi] at e0
    rw [cAt] at e1
    rw [cTm] at e2 e3
    simp [encAq, encTm] at e0 e1 e2 e3
    have hbulk : Rows.uptoBulk y.1 = Rows.uptoBulk y0.1 + (Rows.uptoBulk y1.1 + (Rows.uptoBulk y2.1 + (Rows.uptoBulk y3.1 + 0))) + 1 := by
      rw [hy]; simp only [Rows.uptoBulk, Rows.uptoBulkAll]
    have g0 := bulkR_one y0.1
    have g2 := bulkR_one y2.1
    have g3 := bulkR_one y3.1
    unfold TmZ at hl2 hr2
    refine ⟨⟨k, x, l, r⟩, by rw [e0, e1.1, e1.2, e2.1, e2.2, e3.1, e3.2]; rfl, ⟨hq1, hq2, ?_, fun t ht => ?_, ?_, ?_, hwf⟩, ?_⟩
    · show x.ts.length ≤ _
      omega
    · have := hq4 t ht
      omega
    · show l.text.size ≤ _
      omega
    · show r.text.size ≤ _
      omega
    · show x.ts.length + 3 ≤ _
      omega
/-- A list of literals that was read. -/
theorem lits_of {xs : List Li} {d : DataW H} (hd : d = .nil ∧ xs = [] ∨ ∃ elems spare, d = .slice elems spare ∧ elems.length = xs.length ∧ ∀ j (h : j < xs.length), ∃ y, elems[j]? = some y ∧ LiZ W xs[j] y) : (∀ l ∈ xs, LiB W (Rows.uptoBulk d) l) ∧ (xs.map Li.mass).sum ≤ Rows.uptoBulk d := by
  refine ⟨fun l hl => ?_, ?_⟩
  · obtain ⟨d', q1, q2⟩ := bulk_in hd hl
    exact q1.1.mono q2
  · rcases hd with ⟨_, rfl⟩ | ⟨elems, spare, rfl, he, hq⟩
    · simp
    · have := bulk_sum Li.mass xs elems he (fun j hj => by obtain ⟨y, e, q⟩ := hq j hj; exact ⟨y, e, q.2⟩)
      simp only [Rows.uptoBulk]
      omega
def RuZ (W : World) (x : Ru) (d : DataW H) : Prop := RuB W (Rows.uptoBulk d) x
set_option maxRecDepth 100000 in
theorem open_ruZ (m : Nat) (cs : List Value) (y : DataW H × List MemPlace) (h : DataW.trod enc0 Try.prog W 0 (fun _ => true) true m 27 cs = some y) : ∃ x : Ru, cs = encRu x ∧ RuZ W x y.1 := by
  obtain ⟨y0, y1, m', hy, hl, h0, h1⟩ := trod_struct2 Try.underlying27 h
  obtain ⟨x, e0, hq1, hq2, hq3, hq4⟩ := open_atZ _ _ _ h0
  obtain ⟨a0, cap, b, off, xs, e1, hR, hfr, hd⟩ := open_recs encLiOk Try.underlying25 cLi (fun x d => LiZ W x d) (fun m cs y h => open_liZ m cs y h) h1
  rw [cRu] at hl
  rw [cAt] at e0
  rw [cLs] at e1
  obtain ⟨hm1, hm2⟩ := lits_of hd
  have hbulk : Rows.uptoBulk y.1 = Rows.uptoBulk y0.1 + (Rows.uptoBulk y1.1 + 0) + 1 := by
    rw [hy]; simp only [Rows.uptoBulk, Rows.uptoBulkAll]
  match cs, hl with
  | [c0, c1, c2], _ =>
    simp [encAq] at e0 e1
    refine ⟨⟨x, a0, b, off, cap, xs⟩, by rw [e0.1, e0.2, e1]; rfl, ⟨⟨hq1, hR.lis (fun z hz => (hm1 z hz).ins)⟩, hq2, hfr, fun t ht => ?_, fun l hl => (hm1 l hl).mono (by omega), ?_⟩⟩
    · have := hq4 t ht
      omega
    · show x.ts.length + (xs.map Li.mass).sum + 1 ≤ _
      omega
set_option maxRecDepth 100000 in
/-- An argument that is a rule. -/
theorem open_ruV {v : Value} {d : DataW H} {p : List MemPlace} {base : Nat} (hv : Value.okWide Try.prog W .any base 27 v) (h : DataW.Trod enc0 Try.prog W 0 (fun _ => true) true 27 v d p) :
    ∃ x : Ru, v = x.v ∧ RuB W (Rows.uptoBulk d) x := by
  obtain ⟨cs, rfl, _⟩ := okWide_struct Try.underlying27 hv
  obtain ⟨fuel, hf⟩ := h
  obtain ⟨x, e, hq⟩ := open_ruZ _ _ _ hf
  refine ⟨x, ?_, hq⟩
  unfold Ru.v
  obtain ⟨l⟩ := cs
  simp only [Value.cells] at e
  have : l = encRu x := by simpa using e
  rw [this]
  rfl
/-- An argument that is a list of literals. -/
theorem open_lisV {a0 : Option Addr} {len cap : Nat} {d : DataW H} {p : List MemPlace} (h : DataW.Trod enc0 Try.prog W 0 (fun _ => true) true 25 (.slice a0 len cap) d p) :
    ∃ (b off : Nat) (xs : List Li), len = xs.length ∧ RecS 7 encLi W a0 b off xs ∧ (a0 = none → cap = 0 ∧ xs = []) ∧ (∀ l ∈ xs, LiB W (Rows.uptoBulk d) l) ∧ (xs.map Li.mass).sum ≤ Rows.uptoBulk d := by
  obtain ⟨fuel, hf⟩ := h
  obtain ⟨a1, cap1, b, off, xs, e1, hR, hfr, hd⟩ := open_recs encLiOk Try.underlying25 cLi (fun x d => LiZ W x d) (fun m cs y h => open_liZ m cs y h) hf
  obtain ⟨hm1, hm2⟩ := lits_of hd
  simp [Value.cells] at e1
  obtain ⟨rfl, rfl, rfl⟩ := e1
  exact ⟨b, off, xs, rfl, hR, hfr, hm1, hm2⟩
end
end Go.Proofs.Ytpnjmldbohecdaa
