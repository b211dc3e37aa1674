/- What terms, atoms and literals of an argument are in memory; how much they are of. -/
import Derived.Test.YtpnjmldbohecdaaPZ0
import Derived.Test.YtpnjmldbohecdaaCE
import Derived.WalkKit
import Derived.ChangeSlices
import Derived.SizedLaws
import Derived.SliceStrings
import Derived.Lib.SmallJoins
namespace Go.Proofs.Ytpnjmldbohecdaa
open Go.ChangeShapes Go.WideShapes Go.ChangeAt Go.RowKit

theorem laidOutR : laidOutB Try.prog = true := by kernel_rfl
theorem cTm : Try.prog.cellsOf 51 = 2 := by kernel_rfl
theorem cLi : Try.prog.cellsOf 53 = 7 := by kernel_rfl
theorem cAt : Try.prog.cellsOf 24 = 2 := by kernel_rfl
theorem cRu : Try.prog.cellsOf 27 = 3 := by kernel_rfl
theorem cSt : Try.prog.cellsOf 9 = 1 := by kernel_rfl
theorem cBo : Try.prog.cellsOf 4 = 1 := by kernel_rfl
theorem cTs : Try.prog.cellsOf 22 = 1 := by kernel_rfl
theorem cLs : Try.prog.cellsOf 25 = 1 := by kernel_rfl
theorem cKi : Try.prog.cellsOf 49 = 1 := by kernel_rfl

theorem list_each {α : Type} {p : Nat → α → Prop} : ∀ (n : Nat), (∀ i, i < n → ∃ x, p i x) → ∃ l : List α, l.length = n ∧ ∀ i (h : i < l.length), p i l[i]
  | 0, _ => ⟨[], rfl, fun i h => absurd h (Nat.not_lt_zero _)⟩
  | n + 1, h => by
    obtain ⟨l, h1, h2⟩ := list_each n (fun i hi => h i (by omega))
    obtain ⟨x, hx⟩ := h n (by omega)
    refine ⟨l ++ [x], by simp [h1], fun i hi => ?_⟩
    by_cases hl : i < l.length
    · rw [List.getElem_append_left hl]; exact h2 i hl
    · simp at hi
      obtain rfl : i = n := by omega
      rw [List.getElem_append_right (by omega)]
      simpa [h1] using hx
section
variable {H : Type} {enc0 : TypeId × Value → H} {W : World}
theorem bulkR_one (d : DataW H) : 1 ≤ Rows.uptoBulk d := by
  cases d with
  | lit l => cases l <;> simp [Rows.uptoBulk]
  | _ => simp [Rows.uptoBulk]
/-- What a reader has of a list of records. -/
def ReadR {α : Type} (n : Nat) (enc : α → List Value) (W : World) (Q : α → DataW H → Prop) (cs : List Value) (d : DataW H) : Prop :=
  ∃ (a0 : Option Addr) (cap b off : Nat) (xs : List α), cs = [.slice a0 xs.length cap] ∧ RecS n enc W a0 b off xs ∧ (a0 = none → cap = 0 ∧ xs = []) ∧
    (d = .nil ∧ xs = [] ∨ ∃ elems spare, d = .slice elems spare ∧ elems.length = xs.length ∧ ∀ j (h : j < xs.length), ∃ y, elems[j]? = some y ∧ Q xs[j] y)
theorem open_recs {α : Type} {n : Nat} {enc : α → List Value} (he : EncOk n enc) {s t : TypeId} (hu : Try.prog.underlying s = some (.slice t)) (hc : Try.prog.cellsOf t = n) (Q : α → DataW H → Prop)
    (openE : ∀ m cs y, DataW.trod enc0 Try.prog W 0 (fun _ => true) true m t cs = some y → ∃ x : α, cs = enc x ∧ Q x y.1)
    {cs : List Value} {y : DataW H × List MemPlace} {m : Nat} (h : DataW.trod enc0 Try.prog W 0 (fun _ => true) true m s cs = some y) : ReadR n enc W Q cs y.1 := by
  rcases DataW.trod_slice hu h with ⟨hcs, hx⟩ | ⟨a, len, cap, elems, rest, n', _, hcs, hx, _, hl, hm, hlen, hel, _, _⟩
  · exact ⟨none, 0, 0, 0, [], hcs, RecS.nil _ _ _ _, fun _ => ⟨rfl, rfl⟩, .inl ⟨by rw [hx], rfl⟩⟩
  · rw [hc] at hel
    have each : ∀ i, i < len → ∃ x : α, (∀ k v, (enc x)[k]? = some v → W.cell? ((a.add (i * n)).add k) = some v) ∧ ∃ y, elems[i]? = some y ∧ Q x y.1 := by
      intro i hi
      have h1 := hel i hi
      rw [List.getElem?_eq_getElem (by omega)] at h1
      obtain ⟨ds, h2, h3⟩ := Option.bind_eq_some_iff.1 h1
      obtain ⟨x, rfl, hq⟩ := openE _ _ _ h3
      obtain ⟨_, _, hcell⟩ := World.cells?_some h2
      refine ⟨x, fun k v hv => ?_, elems[i]'(by omega), List.getElem?_eq_getElem (by omega), hq⟩
      have hk : k < n := by have := (List.getElem?_eq_some_iff.1 hv).1; rwa [he.len] at this
      rw [hcell k hk]
      exact hv
    obtain ⟨xs, ht, hx2⟩ := list_each len each
    obtain ⟨b, off, spot⟩ := a
    have hspot : 0 < xs.length → spot = none := fun h => by
      have hz : 0 < (enc xs[0]).length := by rw [he.len]; exact he.pos
      have := (hx2 0 h).1 0 _ (List.getElem?_eq_getElem hz)
      simpa [Addr.add] using World.cell?_spot this
    refine ⟨some ⟨b, off, spot⟩, cap, b, off, xs, by rw [hcs, ht], ⟨fun h => by rw [hspot h], fun j hj i v hv => ?_⟩, (fun h => nomatch h), .inr ⟨elems.map (·.1), rest.map (·.1), by rw [hx], by simp; omega, fun j hj => ?_⟩⟩
    · have h1 := (hx2 j hj).1 i v hv
      obtain rfl := hspot (by omega)
      rwa [add_at, add_at] at h1
    · obtain ⟨y1, g1, g2⟩ := (hx2 j hj).2
      exact ⟨y1.1, by rw [List.getElem?_map, g1]; rfl, g2⟩
/-- The bulk of what was read bounds a sum over it. -/
theorem bulk_sum {α : Type} (f : α → Nat) : ∀ (xs : List α) (elems : List (DataW H)), elems.length = xs.length → (∀ j (h : j < xs.length), ∃ y, elems[j]? = some y ∧ f xs[j] ≤ Rows.uptoBulk y) → (xs.map f).sum ≤ Rows.uptoBulkAll elems
  | [], _, _, _ => by simp
  | x :: xs, [], h, _ => by simp at h
  | x :: xs, d :: elems, h, hq => by
    have ih := bulk_sum f xs elems (by simpa using h) (fun j hj => by
      obtain ⟨y, e, hy⟩ := hq (j + 1) (by simpa using hj)
      exact ⟨y, by simpa using e, hy⟩)
    obtain ⟨y, e, hy⟩ := hq 0 (by simp)
    simp only [List.getElem?_cons_zero, Option.some.injEq] at e
    subst e
    simp only [List.map_cons, List.sum_cons, Rows.uptoBulkAll, List.getElem_cons_zero] at *
    omega
set_option maxRecDepth 100000 in
theorem open_tm (m : Nat) (cs : List Value) (y : DataW H × List MemPlace) (h : DataW.trod enc0 Try.prog W 0 (fun _ => true) true m 51 cs = some y) : ∃ t : Tm, cs = encTm t ∧ True := by
  obtain ⟨y0, y1, m', _, hl, h0, h1⟩ := trod_struct2 Try.underlying51 h
  rw [cTm] at hl
  match cs, hl with
  | [c0, c1], _ =>
    obtain ⟨x1, e1, _⟩ := DataW.trod_bool Try.underlying4 h0
    obtain ⟨x2, e2, _⟩ := DataW.trod_string Try.underlying9 h1
    rw [cBo] at e1
    rw [cSt] at e2
    simp at e1 e2
    exact ⟨⟨x1, x2⟩, by rw [e1, e2]; rfl, trivial⟩

theorem le_sum : ∀ (l : List Nat) (x : Nat), x ∈ l → x ≤ l.sum
  | [], _, h => absurd h List.not_mem_nil
  | y :: l, x, h => by
    rw [List.mem_cons] at h
    rw [List.sum_cons]
    rcases h with rfl | h
    · omega
    · have := le_sum l x h; omega
/-- An atom's two cells. -/
def encAq (x : At) : List Value := [.string x.pred, x.sl]
/-- What is read of an atom. -/
def AtQ (W : World) (x : At) (d : DataW H) : Prop := x.In W ∧ x.fair ∧ x.ts.length + 1 ≤ Rows.uptoBulk d
theorem read_len {xs : List Tm} {d : DataW H} (Q : Tm → DataW H → Prop) (h : d = .nil ∧ xs = [] ∨ ∃ elems spare, d = .slice elems spare ∧ elems.length = xs.length ∧ ∀ j (h : j < xs.length), ∃ y, elems[j]? = some y ∧ Q xs[j] y) : xs.length ≤ Rows.uptoBulk d := by
  rcases h with ⟨_, rfl⟩ | ⟨elems, spare, rfl, he, hq⟩
  · simp
  · have := bulk_sum (fun _ : Tm => 1) xs elems he (fun j hj => by obtain ⟨y, e, _⟩ := hq j hj; exact ⟨y, e, bulkR_one y⟩)
    rw [List.map_const', List.sum_replicate_nat] at this
    simp only [Rows.uptoBulk]
    omega
set_option maxRecDepth 100000 in
theorem open_at (m : Nat) (cs : List Value) (y : DataW H × List MemPlace) (h : DataW.trod enc0 Try.prog W 0 (fun _ => true) true m 24 cs = some y) : ∃ x : At, cs = encAq x ∧ AtQ W x y.1 := by
  obtain ⟨y0, y1, m', hy, hl, h0, h1⟩ := trod_struct2 Try.underlying24 h
  rw [cAt] at hl
  match cs, hl with
  | [c0, c1], _ =>
    obtain ⟨p, e1, _⟩ := DataW.trod_string Try.underlying9 h0
    obtain ⟨a0, cap, b, off, xs, e2, hR, hf, hd⟩ := open_recs encTmOk Try.underlying22 cTm (fun _ _ => True) (fun m cs y h => open_tm m cs y h) h1
    rw [cSt] at e1
    rw [cTs] at e2
    simp at e1 e2
    have hb := read_len (fun _ _ => True) hd
    refine ⟨⟨p, a0, b, off, cap, xs⟩, by rw [e1, e2]; rfl, hR.tms, hf, ?_⟩
    rw [hy]
    have := bulkR_one y0.1
    simp only [Rows.uptoBulk, Rows.uptoBulkAll]
    omega
def LiQ (W : World) (x : Li) (d : DataW H) : Prop := x.atom.In W ∧ x.atom.fair ∧ x.atom.ts.length + 1 ≤ Rows.uptoBulk d
set_option maxRecDepth 100000 in
theorem open_li (m : Nat) (cs : List Value) (y : DataW H × List MemPlace) (h : DataW.trod enc0 Try.prog W 0 (fun _ => true) true m 53 cs = some y) : ∃ x : Li, cs = encLi x ∧ LiQ W x y.1 := by
  obtain ⟨y0, y1, y2, y3, m', hy, hl, h0, h1, h2, h3⟩ := Go.Joins.trod_struct4 Try.underlying53 h
  rw [cLi] at hl
  match cs, hl with
  | [c0, c1, c2, c3, c4, c5, c6], _ =>
    obtain ⟨k, e0, _⟩ := DataW.trod_int Try.underlying49 h0
    obtain ⟨x, e1, hq1, hq2, hq3⟩ := open_at _ _ _ h1
    obtain ⟨l, e2, _⟩ := open_tm _ _ _ h2
    obtain ⟨r, e3, _⟩ := open_tm _ _ _ h3
    rw [cKi] at e0
    rw [cAt] at e1
    rw [cTm] at e2 e3
    simp [encAq, encTm] at e0 e1 e2 e3
    refine ⟨⟨k, x, l, r⟩, by rw [e0, e1.1, e1.2, e2.1, e2.2, e3.1, e3.2]; rfl, hq1, hq2, ?_⟩
    rw [hy]
    simp only [Rows.uptoBulk, Rows.uptoBulkAll]
    show x.ts.length + 1 ≤ _
    omega
end
end Go.Proofs.Ytpnjmldbohecdaa
