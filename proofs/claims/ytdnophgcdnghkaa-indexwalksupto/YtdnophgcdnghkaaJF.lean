/- A table into which keys are put and out of which they are taken, whatever they are; and one that is filled out of a loop. -/
import Derived.Test.YtdnophgcdnghkaaJD
import Derived.Test.YtdnophgcdnghkaaJE
import Derived.Test.YtdnophgcdnghkaaIS
namespace Go.Proofs.Ytdnophgcdnghkaa.I
open Go.RowKit Go.Maps Go.Shelf Go.Proofs.Ytdnophgcdnghkaa

/-- A table at bt, of at most c keys that came; since w0 nothing has turned but its first blocks and what is new. -/
def TabI (w0 wr : World) (bt pb0 : Nat) (fp : Nat × Nat × Int) (c : Nat) : Prop :=
  ∃ cv pb N len reach came places, Tab wr bt fp cv pb N len reach came places ∧ came.length ≤ c ∧ Turn (fun k => k = bt ∨ k = pb0) w0 wr ∧ (∀ k, foot bt pb cv k → k = bt ∨ k = pb0 ∨ w0.heap.size ≤ k)

section
variable {w0 wr : World} {bt pb0 c : Nat} {fp : Nat × Nat × Int}

theorem turn_foot {w' : World} {pb : Nat} {cv : Value} (hT : Turn (fun k => k = bt ∨ k = pb0) w0 wr) (hf : ∀ k, foot bt pb cv k → k = bt ∨ k = pb0 ∨ w0.heap.size ≤ k) (h : Turn (foot bt pb cv) wr w') : Turn (fun k => k = bt ∨ k = pb0) w0 w' :=
  hT.then h (fun k hk hh => by
    rcases hf k hh with h1 | h1 | h1
    · exact .inl h1
    · exact .inr h1
    · omega)

theorem TabI.put (h : TabI w0 wr bt pb0 fp c) (k v : Int) (hk : KeyOk k) (hc : c + 1 ≤ 68719476736) :
    Calls Try.prog 18 #[.pointer (some ⟨bt, 0, none⟩), .int .i64 k, .int .i64 v] wr fun e w' => (∃ x, e = .returned x) ∧ TabI w0 w' bt pb0 fp (c + 1) := by
  obtain ⟨cv, pb, N, len, reach, came, places, hT, hl, hTu, hf⟩ := h
  by_cases hex : ∃ (t : Nat) (e : E), came[t]? = some e ∧ e.there = true ∧ sm fp e.key k = true
  · obtain ⟨t, e, he, hth, hs⟩ := hex
    refine (put_yes hT k hk v he hth hs).mono ?_
    rintro e9 w9 ⟨rfl, hT9, hTu9⟩
    exact ⟨⟨_, rfl⟩, cv, pb, N, len, reach, _, places, hT9, by rw [List.length_set]; omega, turn_foot hTu hf hTu9, hf⟩
  · refine (put_new hT k hk v (fun t e he hth => ?_) (by omega)).mono ?_
    · cases hs : sm fp e.key k with
      | false => rfl
      | true => exact absurd ⟨t, e, he, hth, hs⟩ hex
    · rintro e9 w9 ⟨rfl, cv', pb', reach', came', places', hT9, hS, hTu9, hf9⟩
      refine ⟨⟨_, rfl⟩, cv', pb', _, _, reach', came', places', hT9, ?_, turn_foot hTu hf hTu9, fun j hj => ?_⟩
      · have := hS.len; simp at this; omega
      · rcases hf9 j hj with h1 | h1
        · exact hf j h1
        · exact .inr (.inr (Nat.le_trans hTu.size h1))

theorem TabI.take (h : TabI w0 wr bt pb0 fp c) (k : Int) (hk : KeyOk k) :
    Calls Try.prog 27 #[.pointer (some ⟨bt, 0, none⟩), .int .i64 k] wr fun e w' => (∃ x, e = .returned x) ∧ TabI w0 w' bt pb0 fp c := by
  obtain ⟨cv, pb, N, len, reach, came, places, hT, hl, hTu, hf⟩ := h
  by_cases hex : ∃ (t : Nat) (e : E), came[t]? = some e ∧ e.there = true ∧ sm fp e.key k = true
  · obtain ⟨t, e, he, hth, hs⟩ := hex
    refine (take_yes hT k hk he hth hs).mono ?_
    rintro e9 w9 ⟨rfl, cv', came', places', hT9, _, hl9, hown, hTu9⟩
    refine ⟨⟨_, rfl⟩, cv', pb, N, _, reach, came', places', hT9, by omega, turn_foot hTu hf hTu9, fun j hj => hf j ?_⟩
    rcases hj with h1 | h1 | h1
    · exact .inl h1
    · exact .inr (.inl h1)
    · exact .inr (.inr (by rw [← hown]; exact h1))
  · refine (take_no hT k hk (fun t e he hth => ?_)).mono ?_
    · cases hs : sm fp e.key k with
      | false => rfl
      | true => exact absurd ⟨t, e, he, hth, hs⟩ hex
    · rintro e9 w9 ⟨rfl, n, rfl⟩
      exact ⟨⟨_, rfl⟩, cv, pb, N, len, reach, came, places, hT.drew n, hl, hTu.trans (Turn.of_stay (Stay.drewN _ _)), hf⟩

/-- The rows of a table, as its box names them. -/
def Mu (bt : Nat) (W : World) (k : Nat) : Prop := (∃ cv : Value, W.cell? ⟨bt, 2, none⟩ = some cv ∧ cv.ownBlock = some k) ∨ (∃ n c, W.cell? ⟨bt, 3, none⟩ = some (.slice (some ⟨k, 0, none⟩) n c))

theorem mu_iff {W : World} {cv : Value} {pb N len reach : Nat} {came : List E} {places : List Nat} (h : Tab W bt fp cv pb N len reach came places) (k : Nat) : Mu bt W k ↔ cv.ownBlock = some k ∨ k = pb := by
  unfold Mu
  obtain ⟨pc, h3⟩ := h.box.c3
  rw [h.box.c2, h3]
  constructor
  · rintro (⟨cv', h1, h2⟩ | ⟨n, c, h1⟩)
    · simp only [Option.some.injEq] at h1; subst h1; exact .inl h2
    · simp only [Option.some.injEq, Value.slice.injEq, Addr.mk.injEq] at h1
      exact .inr h1.1.1.symm
  · rintro (h1 | rfl)
    · exact .inl ⟨cv, rfl, h1⟩
    · exact .inr ⟨_, _, rfl⟩

theorem mu_alloc {W : World} (hb : bt < W.heap.size) (o : Obj) (k : Nat) (h : Mu bt (W.alloc o) k) : Mu bt W k := by
  have e : ∀ j, (W.alloc o).cell? ⟨bt, j, none⟩ = W.cell? ⟨bt, j, none⟩ := fun j => World.cell?_of_block (a := ⟨bt, j, none⟩) (Below.heap_alloc W o bt hb)
  unfold Mu at *
  rw [e 2, e 3] at h
  exact h

/-- What a Put keeps, for a loop over an iterator. -/
theorem keep_put {B : Nat} {W W' : World} {cv cv' : Value} {pb pb' N len reach N' len' reach' : Nat} {came came' : List E} {places places' : List Nat} (h : Tab W bt fp cv pb N len reach came places) (h' : Tab W' bt fp cv' pb' N' len' reach' came' places') (hb : bt < B)
    (hT : Turn (foot bt pb cv) W W') (hf : ∀ j, foot bt pb' cv' j → foot bt pb cv j ∨ W.heap.size ≤ j) : Keep B (Mu bt) W W' := by
  refine ⟨hT.size, fun k cs t f hk hc hn => hT.heap hc (fun hh => ?_), fun k hm => ?_⟩
  · rcases hh with rfl | rfl | hh
    · omega
    · exact hn ((mu_iff h _).2 (.inr rfl))
    · exact hn ((mu_iff h _).2 (.inl hh))
  · have h1 : foot bt pb' cv' k := by
      rcases (mu_iff h' k).1 hm with h1 | h1
      · exact .inr (.inr h1)
      · exact .inr (.inl h1)
    rcases hf k h1 with (rfl | rfl | h2) | h2
    · exfalso
      rcases (mu_iff h' k).1 hm with h3 | h3
      · exact h'.two.2.1 h3
      · exact h'.two.1 h3
    · exact .inl ((mu_iff h _).2 (.inr rfl))
    · exact .inl ((mu_iff h _).2 (.inl h2))
    · exact .inr h2

theorem cells_of_cell {W : World} {k j : Nat} {v : Value} (h : W.cell? ⟨k, j, none⟩ = some v) : ∃ cs t f, W.heap[k]? = some (.cells cs t f) := by
  unfold World.cell? at h
  dsimp only at h
  split at h
  · rename_i cs t f hh; exact ⟨cs, t, f, hh⟩
  · cases h

theorem Tab.isCells {W : World} {cv : Value} {pb N len reach : Nat} {came : List E} {places : List Nat} (h : Tab W bt fp cv pb N len reach came places) (k : Nat) (hk : foot bt pb cv k ∨ fnfoot fp k) : ∃ cs t f, W.heap[k]? = some (.cells cs t f) := by
  rcases hk with (rfl | rfl | hk) | (rfl | rfl)
  · obtain ⟨pc, hb⟩ := h.box
    exact ⟨_, _, _, hb⟩
  · obtain ⟨cur, hb, -⟩ := h.spots
    exact ⟨_, _, _, hb⟩
  · rcases h.row with ⟨rfl, _⟩ | ⟨g, cap, rfl, cur, hC, _⟩
    · simp [Value.ownBlock] at hk
    · simp [Value.ownBlock] at hk; subst hk; exact ⟨_, _, _, hC⟩
  · exact cells_of_cell h.fns.1
  · exact cells_of_cell h.fns.2.1

theorem keepsFrom_turn {B : Nat} {W W' : World} {cv : Value} {pb N len reach : Nat} {came : List E} {places : List Nat} (h : Tab W bt fp cv pb N len reach came places) (hT : Turn (foot bt pb cv) W W') : KeepsFrom B W W' :=
  ⟨hT.size, fun k o _ hk ho => hT.heap hk (fun hf => by
    obtain ⟨cs, t, f, hc⟩ := h.isCells k (.inl hf)
    rw [hk] at hc; simp only [Option.some.injEq] at hc; subst hc; simp [Obj.isCells] at ho)⟩

def kv (e : E) : Int × Int := (e.key, e.val)
theorem kv_sim {a b : List E} (h : Sim a b) : b.map kv = a.map kv := by
  have e : ∀ l : List E, l.map kv = (l.map strip).map kv := fun l => by rw [List.map_map]; rfl
  rw [e b, e a, h]
theorem there_sim {a b : List E} (h : Sim a b) (ha : ∀ e ∈ a, e.there = true) : ∀ e ∈ b, e.there = true := by
  intro e he
  obtain ⟨i, hi⟩ := List.getElem?_of_mem he
  obtain ⟨p, hp⟩ := h.at hi
  exact ha { e with place := p } (List.mem_of_getElem? hp)

/-- A table that is filled, in a loop over a list of entries. -/
def UI (W0 W : World) (bt pb0 : Nat) (fp : Nat × Nat × Int) (L : List E) (pre : List Nat) : Prop :=
  ∃ cv pb N len reach came places, Tab W bt fp cv pb N len reach came places ∧ (∀ e ∈ came, e.there = true) ∧ (N = 8 ∨ 3 * N < 8 * len) ∧ came.length ≤ pre.length ∧ (pre = List.range pre.length → came.map kv = (L.take pre.length).map kv) ∧
    Turn (fun k => k = bt ∨ k = pb0) W0 W ∧ (∀ k, foot bt pb cv k → k = bt ∨ k = pb0 ∨ W0.heap.size ≤ k)

theorem range_snoc {pre : List Nat} {x : Nat} (h : pre ++ [x] = List.range (pre ++ [x]).length) : pre = List.range pre.length ∧ x = pre.length := by
  rw [List.length_append, List.length_singleton, List.range_succ] at h
  have := List.append_inj h (by simp)
  exact ⟨this.1, by simpa using this.2⟩

theorem UI.put {W0 W : World} {L : List E} {pre : List Nat} (h : UI W0 W bt pb0 fp L pre) (x : Nat) (hb : bt < W0.heap.size) (hko : KeyOk (L[x]?.getD gap).key) (hdist : ∀ (i j : Nat) (a b : E), L[i]? = some a → L[j]? = some b → sm fp a.key b.key = true → i = j) (hpl : pre.length < L.length) (hc : pre.length + 1 ≤ 68719476736) :
    Calls Try.prog 18 #[.pointer (some ⟨bt, 0, none⟩), .int .i64 (L[x]?.getD gap).key, .int .i64 (L[x]?.getD gap).val] W fun e w' => (∃ y, e = .returned y) ∧ UI W0 w' bt pb0 fp L (pre ++ [x]) ∧ Keep W0.heap.size (Mu bt) W w' ∧ KeepsFrom W0.heap.size W w' := by
  obtain ⟨cv, pb, N, len, reach, came, places, hT, hall, hsm, hl, hkv, hTu, hf⟩ := h
  by_cases hex : ∃ (t : Nat) (e : E), came[t]? = some e ∧ e.there = true ∧ sm fp e.key (L[x]?.getD gap).key = true
  · obtain ⟨t, e, he, hth, hs⟩ := hex
    refine (put_yes hT _ hko _ he hth hs).mono ?_
    rintro e9 w9 ⟨rfl, hT9, hTu9⟩
    refine ⟨⟨_, rfl⟩, ⟨cv, pb, N, len, reach, _, places, hT9, ?_, hsm, by rw [List.length_set, List.length_append]; omega, fun hr => ?_, turn_foot hTu hf hTu9, hf⟩, keep_put hT hT9 hb hTu9 (fun j hj => .inl hj), keepsFrom_turn hT hTu9⟩
    · intro y hy
      rcases List.mem_or_eq_of_mem_set hy with h1 | h1
      · exact hall y h1
      · subst h1; exact hth
    · exfalso
      obtain ⟨h1, rfl⟩ := range_snoc hr
      have h2 := hkv h1
      obtain ⟨b, hb2⟩ : ∃ b, L[pre.length]? = some b := ⟨_, List.getElem?_eq_getElem hpl⟩
      have h3 : (came.map kv)[t]? = some (kv e) := by rw [List.getElem?_map, he]; rfl
      rw [h2, List.getElem?_map] at h3
      cases h4 : (L.take pre.length)[t]? with
      | none => rw [h4] at h3; simp at h3
      | some a =>
        rw [h4] at h3
        simp only [Option.map_some, Option.some.injEq, kv, Prod.mk.injEq] at h3
        have htl : t < pre.length := by
          have := (List.getElem?_eq_some_iff.1 h4).1
          rw [List.length_take] at this; omega
        rw [List.getElem?_take_of_lt htl] at h4
        rw [hb2, Option.getD_some, ← h3.1] at hs
        have := hdist t pre.length a b h4 hb2 hs
        omega
  · refine (put_new hT _ hko _ (fun t e he hth => ?_) (by omega)).mono ?_
    · cases hs : sm fp e.key (L[x]?.getD gap).key with
      | false => rfl
      | true => exact absurd ⟨t, e, he, hth, hs⟩ hex
    · rintro e9 w9 ⟨rfl, cv', pb', reach', came', places', hT9, hS, hTu9, hf9⟩
      refine ⟨⟨_, rfl⟩, ⟨cv', pb', _, _, reach', came', places', hT9, there_sim hS ?_, ?_, ?_, fun hr => ?_, turn_foot hTu hf hTu9, fun j hj => ?_⟩, keep_put hT hT9 hb hTu9 hf9, keepsFrom_turn hT hTu9⟩
      · intro y hy
        rcases List.mem_append.1 hy with h1 | h1
        · exact hall y h1
        · simp only [List.mem_singleton] at h1; subst h1; rfl
      · split
        · right; omega
        · rcases hsm with h1 | h1
          · exact .inl h1
          · right; omega
      · have := hS.len; simp at this ⊢; omega
      · obtain ⟨h1, rfl⟩ := range_snoc hr
        obtain ⟨b, hb2⟩ : ∃ b, L[pre.length]? = some b := ⟨_, List.getElem?_eq_getElem hpl⟩
        rw [kv_sim hS, List.map_append, hkv h1, List.length_append, List.length_singleton, take_snoc hb2, List.map_append]
        simp [kv, hb2]
      · rcases hf9 j hj with h1 | h1
        · exact hf j h1
        · exact .inr (.inr (Nat.le_trans hTu.size h1))
end
end Go.Proofs.Ytdnophgcdnghkaa.I
