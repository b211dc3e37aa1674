/- What an argument that is a script is in memory. -/
import Derived.Test.YtdnophgcdnghkaaK
import Derived.Test.YtdnophgcdnghkaaJ4n
import Derived.JoinedCond
namespace Go.Proofs.Ytdnophgcdnghkaa
open Go.ChangeShapes Go.WideShapes Go.ChangeAt Go.RowKit Go.Proofs.Ytdnophgcdnghkaa.I

theorem cellsSt : Try.prog.cellsOf 42 = 5 := by kernel_rfl
theorem trod_struct5 {P : Program} {H : Type} {enc : TypeId × Value → H} {w : World} {base : Nat} {spare : TypeId → Bool} {held : Bool} {t : TypeId} {f0 f1 f2 f3 f4 : Field} {fuel : Nat} {cs : List Value} {x : DataW H × List MemPlace} (ht : P.underlying t = some (.struct #[f0, f1, f2, f3, f4])) (h : DataW.trod enc P w base spare held fuel t cs = some x) :
    ∃ y0 y1 y2 y3 y4 n, x = (.agg [y0.1, y1.1, y2.1, y3.1, y4.1], y0.2 ++ (y1.2 ++ (y2.2 ++ (y3.2 ++ y4.2)))) ∧ cs.length = P.cellsOf t ∧ DataW.trod enc P w base spare held n f0.type ((cs.drop f0.offset).take (P.cellsOf f0.type)) = some y0 ∧
      DataW.trod enc P w base spare held n f1.type ((cs.drop f1.offset).take (P.cellsOf f1.type)) = some y1 ∧ DataW.trod enc P w base spare held n f2.type ((cs.drop f2.offset).take (P.cellsOf f2.type)) = some y2 ∧
      DataW.trod enc P w base spare held n f3.type ((cs.drop f3.offset).take (P.cellsOf f3.type)) = some y3 ∧ DataW.trod enc P w base spare held n f4.type ((cs.drop f4.offset).take (P.cellsOf f4.type)) = some y4 := by
  obtain ⟨xs, n, _, rfl, hl, hlen, hf⟩ := DataW.trod_struct ht h
  match xs, hlen with
  | [y0, y1, y2, y3, y4], _ => exact ⟨y0, y1, y2, y3, y4, n, by simp, hl, by simpa using hf 0 f0 rfl, by simpa using hf 1 f1 rfl, by simpa using hf 2 f2 rfl, by simpa using hf 3 f3 rfl, by simpa using hf 4 f4 rfl⟩
theorem list_every {α : Type} {p : Nat → α → Prop} : ∀ (n : Nat), (∀ i, i < n → ∃ x, p i x) → ∃ l : List α, l.length = n ∧ ∀ i (h : i < l.length), p i l[i]
  | 0, _ => ⟨[], rfl, fun i h => absurd h (Nat.not_lt_zero _)⟩
  | n + 1, h => by
    obtain ⟨l, h1, h2⟩ := list_every n (fun i hi => h i (by omega))
    obtain ⟨x, hx⟩ := h n (by omega)
    refine ⟨l ++ [x], by simp [h1], fun i hi => ?_⟩
    by_cases hl : i < l.length
    · rw [List.getElem_append_left hl]; exact h2 i hl
    · simp at hi
      obtain rfl : i = n := by omega
      rw [List.getElem_append_right (by omega)]
      simpa [h1] using hx
theorem key_ok {z : Int} (h : (Lit.int .i64 z).wf = true) : KeyOk z := by
  unfold KeyOk
  simpa [Lit.wf, IntKind.min, IntKind.max, IntKind.signed, IntKind.bits] using h
section
variable {H : Type} {enc : TypeId × Value → H} {W : World}
set_option maxRecDepth 100000 in
theorem open_st {cs : List Value} {y : DataW H × List MemPlace} {n : Nat} (h : DataW.trod enc Try.prog W 0 (fun _ => true) true n 42 cs = some y) : ∃ s : St, cs = encSt s ∧ s.Ok := by
  obtain ⟨y0, y1, y2, y3, y4, m, _, hl, h0, h1, h2, h3, h4⟩ := trod_struct5 Try.underlying42 h
  rw [cellsSt] at hl
  match cs, hl with
  | [c0, c1, c2, c3, c4], _ =>
    obtain ⟨x0, e0, _, _⟩ := DataW.trod_int Try.underlying3 h0
    obtain ⟨x1, e1, _, w1⟩ := DataW.trod_int Try.underlying3 h1
    obtain ⟨x2, e2, _, w2⟩ := DataW.trod_int Try.underlying3 h2
    obtain ⟨x3, e3, _, w3⟩ := DataW.trod_int Try.underlying3 h3
    obtain ⟨x4, e4, _, w4⟩ := DataW.trod_int Try.underlying3 h4
    simp only [cellsI] at e0 e1 e2 e3 e4
    simp at e0 e1 e2 e3 e4
    exact ⟨(x0, x1, x2, x3, x4), by simp [encSt, e0, e1, e2, e3, e4], key_ok w1, key_ok w2, key_ok w3, key_ok w4⟩
theorem open_sts {a0 : Option Addr} {len cap : Nat} {d : DataW H} {p : List MemPlace} (h : DataW.Trod enc Try.prog W 0 (fun _ => true) true 22 (.slice a0 len cap) d p) :
    ∃ (b off : Nat) (ss : List St), RecS 5 encSt W a0 b off ss ∧ len = ss.length ∧ (∀ s ∈ ss, s.Ok) ∧ (d = .nil ∧ ss = [] ∨ ∃ elems spare, d = .slice elems spare ∧ elems.length = ss.length) := by
  obtain ⟨fuel, hf⟩ := h
  rcases DataW.trod_slice Try.underlying22 hf with ⟨hcs, hx⟩ | ⟨a, len', cap', elems, rest, n, _, hcs, hx, _, hl, hm, hlen, hel, _, _⟩
  · simp [Value.cells] at hcs
    obtain ⟨rfl, rfl, rfl⟩ := hcs
    simp only [Prod.mk.injEq] at hx
    exact ⟨0, 0, [], ⟨fun h => absurd h (Nat.lt_irrefl _), fun j hj => by simp at hj⟩, rfl, fun s hs => by simp at hs, .inl ⟨hx.1, rfl⟩⟩
  · simp [Value.cells] at hcs
    obtain ⟨rfl, rfl, rfl⟩ := hcs
    simp only [Prod.mk.injEq] at hx
    have each : ∀ i, i < len → ∃ s : St, (∀ k v, (encSt s)[k]? = some v → W.cell? ((a.add (i * 5)).add k) = some v) ∧ s.Ok := by
      intro i hi
      have h1 := hel i hi
      rw [cellsSt, List.getElem?_eq_getElem (by omega)] at h1
      obtain ⟨cs, h2, h3⟩ := Option.bind_eq_some_iff.1 h1
      obtain ⟨s, rfl, hs⟩ := open_st h3
      obtain ⟨_, _, hc⟩ := World.cells?_some h2
      refine ⟨s, fun k v hv => ?_, hs⟩
      have hk : k < 5 := by have := (List.getElem?_eq_some_iff.1 hv).1; rwa [encStOk.len] at this
      rw [hc k hk]
      exact hv
    obtain ⟨ss, ht, he⟩ := list_every len each
    obtain ⟨b, off, spot⟩ := a
    have hspot : 0 < ss.length → spot = none := fun h => by
      have := (he 0 h).1 0 _ rfl
      simpa [Addr.add] using World.cell?_spot this
    refine ⟨b, off, ss, ⟨fun h => by rw [hspot h], fun j hj k v hv => ?_⟩, ht.symm, fun s hs => ?_, .inr ⟨_, _, hx.1, by simp; omega⟩⟩
    · have h1 := (he j hj).1 k v hv
      obtain rfl := hspot (by omega)
      rwa [add_at, add_at] at h1
    · obtain ⟨j, hj, rfl⟩ := List.mem_iff_getElem.1 hs
      exact (he j hj).2
theorem bulk_one (d : DataW H) : 1 ≤ Rows.uptoBulk d := by
  cases d with
  | lit l => cases l <;> simp [Rows.uptoBulk]
  | _ => simp [Rows.uptoBulk]
theorem bulk_len : ∀ (l : List (DataW H)), l.length ≤ Rows.uptoBulkAll l
  | [] => by simp
  | x :: r => by have := bulk_len r; have := bulk_one x; simp only [Rows.uptoBulkAll, List.length_cons]; omega
theorem bulk_sts {d : DataW H} {ss : List St} (hx : d = .nil ∧ ss = [] ∨ ∃ elems spare, d = .slice elems spare ∧ elems.length = ss.length) : ss.length ≤ Rows.uptoBulk d := by
  rcases hx with ⟨_, rfl⟩ | ⟨elems, spare, rfl, hl⟩
  · simp
  · simp only [Rows.uptoBulk]
    have h1 := bulk_len elems
    omega
end
end Go.Proofs.Ytdnophgcdnghkaa
