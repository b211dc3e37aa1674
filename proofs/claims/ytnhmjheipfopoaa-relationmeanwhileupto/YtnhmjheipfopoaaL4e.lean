/- What a lookup holds, plainly: of each key the places of the tuples that have it. A lookup in memory: its box, its table, its lists of places; what only reads. newLookup, places. -/
import Derived.Test.YtnhmjheipfopoaaL4b
import Derived.Test.YtnhmjheipfopoaaIRl
namespace Go.Proofs.Ytnhmjheipfopoaa.L
open Go.RowKit Go.Maps Go.Proofs.Ytnhmjheipfopoaa

/-- The places of the tuples whose columns c are l. -/
def plc (c : Nat) (T : List (List Int)) (l : List Int) : List Nat := (List.range T.length).filter fun p => decide (cutL (T.getD p []) c = l)

theorem plc_snoc (c : Nat) (T : List (List Int)) (t l : List Int) : plc c (T ++ [t]) l = plc c T l ++ (if cutL t c = l then [T.length] else []) := by
  unfold plc
  rw [List.length_append, List.length_singleton, List.range_succ, List.filter_append]
  congr 1
  · apply List.filter_congr
    intro p hp
    rw [List.mem_range] at hp
    rw [List.getD_eq_getElem?_getD, List.getElem?_append_left hp, List.getD_eq_getElem?_getD]
  · by_cases h : cutL t c = l
    · simp [h]
    · simp [h]
theorem plc_nil (c : Nat) (l : List Int) : plc c [] l = [] := rfl
theorem plc_len (c : Nat) (T : List (List Int)) (l : List Int) : (plc c T l).length ≤ T.length := by
  have := List.length_filter_le (fun p => decide (cutL (T.getD p []) c = l)) (List.range T.length)
  simpa [plc] using this
theorem plc_mem {c : Nat} {T : List (List Int)} {l : List Int} {p : Nat} (h : p ∈ plc c T l) : p < T.length ∧ cutL (T.getD p []) c = l := by
  unfold plc at h
  rw [List.mem_filter, List.mem_range] at h
  exact ⟨h.1, by simpa using h.2⟩

/-- What stands by a key: one place, or the number of a list of them. -/
def Holds (ls : List (List Nat)) (v : Int) (ps : List Nat) : Prop := (∃ p : Nat, v = p ∧ ps = [p]) ∨ ∃ i : Nat, v = -1 - (i : Int) ∧ ls[i]? = some ps ∧ 2 ≤ ps.length

structure Cont (c : Nat) (T : List (List Int)) (came : List E) (ls : List (List Nat)) : Prop where
  there : ∀ (t : Nat) (e : E), came[t]? = some e → e.there = true
  val : ∀ (t : Nat) (e : E), came[t]? = some e → Holds ls e.val (plc c T e.key.l)
  all : ∀ l, plc c T l ≠ [] → ∃ (t : Nat) (e : E), came[t]? = some e ∧ e.key.l = l
  uniq : ∀ (t : Nat) (e : E) (t' : Nat) (e' : E), came[t]? = some e → came[t']? = some e' → e.key.l = e'.key.l → t = t'
  few : came.length ≤ T.length ∧ ls.length ≤ T.length

theorem Cont.empty (c : Nat) : Cont c [] [] [] := ⟨fun t e h => by simp at h, fun t e h => by simp at h, fun l h => absurd (plc_nil c l) h, fun t e t' e' h => by simp at h, Nat.le_refl _, Nat.le_refl _⟩

theorem Holds.ne {ls : List (List Nat)} {v : Int} {ps : List Nat} (h : Holds ls v ps) : ps ≠ [] := by
  rcases h with ⟨p, _, rfl⟩ | ⟨i, _, _, h2⟩
  · simp
  · rintro rfl; simp at h2

theorem Cont.sim {c : Nat} {T : List (List Int)} {came came' : List E} {ls : List (List Nat)} (h : Cont c T came ls) (hs : Sim came came') : Cont c T came' ls := by
  refine ⟨?_, ?_, ?_, ?_, ?_⟩
  · intro t e he
    obtain ⟨p, hp⟩ := hs.at he
    exact h.there t { e with place := p } hp
  · intro t e he
    obtain ⟨p, hp⟩ := hs.at he
    exact h.val t { e with place := p } hp
  · intro l hl
    obtain ⟨t, e, he, hk⟩ := h.all l hl
    obtain ⟨e', he'⟩ : ∃ e', came'[t]? = some e' := by
      have := (List.getElem?_eq_some_iff.1 he).1
      exact ⟨_, List.getElem?_eq_getElem (by rw [hs.len]; exact this)⟩
    obtain ⟨p, hp⟩ := hs.at he'
    rw [he] at hp
    simp only [Option.some.injEq] at hp
    exact ⟨t, e', he', by rw [← hk, hp]⟩
  · intro t e t' e' he he' hk
    obtain ⟨p, hp⟩ := hs.at he
    obtain ⟨p', hp'⟩ := hs.at he'
    exact h.uniq t _ t' _ hp hp' hk
  · rw [hs.len]; exact h.few

/-- The tuple is the first one with its key. -/
theorem Cont.first {c : Nat} {T : List (List Int)} {came : List E} {ls : List (List Nat)} (h : Cont c T came ls) {t : List Int} {k : LK} (hk : k.l = cutL t c) (hno : plc c T k.l = []) (hh : Nat) :
    Cont c (T ++ [t]) (came ++ [ent k T.length hh 0]) ls := by
  have hcg : ∀ (i : Nat) (e : E), (came ++ [ent k T.length hh 0])[i]? = some e → came[i]? = some e ∨ (i = came.length ∧ e = ent k T.length hh 0) := by
    intro i e he
    by_cases hi : i < came.length
    · rw [List.getElem?_append_left hi] at he; exact .inl he
    · have hl := (List.getElem?_eq_some_iff.1 he).1
      rw [List.length_append, List.length_singleton] at hl
      obtain rfl : i = came.length := by omega
      simp at he
      exact .inr ⟨rfl, he.symm⟩
  have hold : ∀ (i : Nat) (e : E), came[i]? = some e → e.key.l ≠ k.l := by
    intro i e he heq
    exact (h.val i e he).ne (by rw [heq]; exact hno)
  refine ⟨?_, ?_, ?_, ?_, ?_⟩
  · intro i e he
    rcases hcg i e he with h1 | ⟨_, rfl⟩
    · exact h.there i e h1
    · rfl
  · intro i e he
    rcases hcg i e he with h1 | ⟨_, rfl⟩
    · rw [plc_snoc, if_neg (fun x => hold i e h1 (by rw [hk]; exact x.symm)), List.append_nil]
      exact h.val i e h1
    · rw [plc_snoc]
      show Holds ls (T.length : Int) (plc c T k.l ++ if cutL t c = k.l then [T.length] else [])
      rw [hno, if_pos hk.symm]
      exact .inl ⟨T.length, rfl, rfl⟩
  · intro l hl
    rw [plc_snoc] at hl
    by_cases he : cutL t c = l
    · exact ⟨came.length, ent k T.length hh 0, by simp, by show k.l = l; rw [hk, he]⟩
    · rw [if_neg he, List.append_nil] at hl
      obtain ⟨i, e, h1, h2⟩ := h.all l hl
      exact ⟨i, e, by rw [List.getElem?_append_left (List.getElem?_eq_some_iff.1 h1).1]; exact h1, h2⟩
  · intro i e i' e' he he' hkk
    rcases hcg i e he with h1 | ⟨rfl, rfl⟩
    · rcases hcg i' e' he' with h2 | ⟨rfl, rfl⟩
      · exact h.uniq i e i' e' h1 h2 hkk
      · exact absurd hkk (hold i e h1)
    · rcases hcg i' e' he' with h2 | ⟨rfl, rfl⟩
      · exact absurd hkk.symm (hold i' e' h2)
      · rfl
  · simp; have := h.few; omega

/-- The tuple is the second one with its key. -/
theorem Cont.second {c : Nat} {T : List (List Int)} {came : List E} {ls : List (List Nat)} (h : Cont c T came ls) {t : List Int} {i : Nat} {e : E} (he : came[i]? = some e) (hk : e.key.l = cutL t c) {p : Nat} (hv : e.val = p) :
    Cont c (T ++ [t]) (came.set i { e with val := -((ls.length : Int) + 1) }) (ls ++ [[p, T.length]]) := by
  have hl := (List.getElem?_eq_some_iff.1 he).1
  have hps : plc c T e.key.l = [p] := by
    rcases h.val i e he with ⟨q, h1, h2⟩ | ⟨j, h1, _⟩
    · rw [h2]; have : q = p := by omega
      rw [this]
    · omega
  have hcg : ∀ (j : Nat) (x : E), (came.set i { e with val := -((ls.length : Int) + 1) })[j]? = some x → (j ≠ i ∧ came[j]? = some x) ∨ (j = i ∧ x = { e with val := -((ls.length : Int) + 1) }) := by
    intro j x hx
    by_cases hj : j = i
    · subst hj; rw [List.getElem?_set_self hl] at hx; exact .inr ⟨rfl, (Option.some.inj hx).symm⟩
    · rw [List.getElem?_set_ne (Ne.symm hj)] at hx; exact .inl ⟨hj, hx⟩
  refine ⟨?_, ?_, ?_, ?_, ?_⟩
  · intro j x hx
    rcases hcg j x hx with ⟨_, h1⟩ | ⟨_, rfl⟩
    · exact h.there j x h1
    · exact h.there i e he
  · intro j x hx
    rcases hcg j x hx with ⟨hj, h1⟩ | ⟨_, rfl⟩
    · rw [plc_snoc, if_neg (fun y => hj (h.uniq j x i e h1 he (by rw [hk]; exact y.symm))), List.append_nil]
      rcases h.val j x h1 with hA | ⟨q, h2, h3, h4⟩
      · exact .inl hA
      · exact .inr ⟨q, h2, by rw [List.getElem?_append_left (List.getElem?_eq_some_iff.1 h3).1]; exact h3, h4⟩
    · refine .inr ⟨ls.length, by show -((ls.length : Int) + 1) = _; omega, ?_, ?_⟩
      · rw [plc_snoc]
        show (ls ++ [[p, T.length]])[ls.length]? = some (plc c T e.key.l ++ if cutL t c = e.key.l then [T.length] else [])
        rw [hps, if_pos hk.symm]; simp
      · rw [plc_snoc]
        show 2 ≤ (plc c T e.key.l ++ if cutL t c = e.key.l then [T.length] else []).length
        rw [hps, if_pos hk.symm]; simp
  · intro l hl'
    have hex : ∃ (j : Nat) (x : E), came[j]? = some x ∧ x.key.l = l := by
      rw [plc_snoc] at hl'
      by_cases hq : cutL t c = l
      · exact ⟨i, e, he, by rw [hk, hq]⟩
      · rw [if_neg hq, List.append_nil] at hl'
        exact h.all l hl'
    obtain ⟨j, x, h1, h2⟩ := hex
    by_cases hj : j = i
    · subst hj
      rw [he] at h1
      obtain rfl := Option.some.inj h1
      exact ⟨j, _, List.getElem?_set_self hl, h2⟩
    · exact ⟨j, x, by rw [List.getElem?_set_ne (Ne.symm hj)]; exact h1, h2⟩
  · intro j x j' x' hx hx' hkk
    rcases hcg j x hx with ⟨hj, h1⟩ | ⟨rfl, rfl⟩
    · rcases hcg j' x' hx' with ⟨hj', h2⟩ | ⟨rfl, rfl⟩
      · exact h.uniq j x j' x' h1 h2 hkk
      · exact h.uniq j x j' e h1 he hkk
    · rcases hcg j' x' hx' with ⟨hj', h2⟩ | ⟨rfl, rfl⟩
      · exact h.uniq j e j' x' he h2 hkk
      · rfl
  · simp; have := h.few; omega

/-- The tuple's key has two or more already. -/
theorem Cont.more {c : Nat} {T : List (List Int)} {came : List E} {ls : List (List Nat)} (h : Cont c T came ls) {t : List Int} {i : Nat} {e : E} (he : came[i]? = some e) (hk : e.key.l = cutL t c) {j : Nat} (hv : e.val = -1 - (j : Int)) :
    ∃ ps, ls[j]? = some ps ∧ ps = plc c T e.key.l ∧ Cont c (T ++ [t]) came (ls.set j (ps ++ [T.length])) := by
  obtain ⟨hj, h2⟩ : ls[j]? = some (plc c T e.key.l) ∧ 2 ≤ (plc c T e.key.l).length := by
    rcases h.val i e he with ⟨q, h1, _⟩ | ⟨q, h1, h2, h3⟩
    · omega
    · have : q = j := by omega
      exact this ▸ ⟨h2, h3⟩
  have hjl := (List.getElem?_eq_some_iff.1 hj).1
  refine ⟨_, hj, rfl, h.there, ?_, ?_, h.uniq, ?_⟩
  · intro i' x hx
    by_cases hq : cutL t c = x.key.l
    · obtain rfl := h.uniq i e i' x he hx (by rw [hk, hq])
      rw [he] at hx
      obtain rfl := Option.some.inj hx
      refine .inr ⟨j, hv, ?_, ?_⟩
      · rw [plc_snoc, if_pos hq, List.getElem?_set_self hjl]
      · rw [plc_snoc, if_pos hq]; simp; omega
    · rw [plc_snoc, if_neg hq, List.append_nil]
      rcases h.val i' x hx with hA | ⟨q, h3, h4, h5⟩
      · exact .inl hA
      · refine .inr ⟨q, h3, ?_, h5⟩
        rw [List.getElem?_set_ne]
        · exact h4
        · rintro rfl
          rw [hj] at h4
          have h6 := Option.some.inj h4
          obtain ⟨p, hp⟩ : ∃ p, p ∈ plc c T e.key.l := by
            cases hq2 : plc c T e.key.l with
            | nil => rw [hq2] at h2; simp at h2
            | cons p r => exact ⟨p, by simp⟩
          have ha := (plc_mem hp).2
          have hb := (plc_mem (h6 ▸ hp)).2
          exact hq (by rw [← hk, ← ha, hb])
  · intro l hl
    rw [plc_snoc] at hl
    by_cases hq : cutL t c = l
    · exact ⟨i, e, he, by rw [hk, hq]⟩
    · rw [if_neg hq, List.append_nil] at hl
      exact h.all l hl
  · simp; have := h.few; omega

/-- What the places of a key are, by what stands by it. -/
theorem Cont.none_iff {c : Nat} {T : List (List Int)} {came : List E} {ls : List (List Nat)} (h : Cont c T came ls) (l : List Int) : plc c T l = [] ↔ ∀ (t : Nat) (e : E), came[t]? = some e → e.key.l ≠ l := by
  constructor
  · intro h0 t e he hk
    exact (h.val t e he).ne (by rw [hk]; exact h0)
  · intro h0
    apply Classical.byContradiction
    intro hne
    obtain ⟨t, e, he, hk⟩ := h.all l hne
    exact h0 t e he hk
end Go.Proofs.Ytnhmjheipfopoaa.L
namespace Go.Proofs.Ytnhmjheipfopoaa.L
open Go.RowKit Go.Maps Go.Proofs.Ytnhmjheipfopoaa

/-- Lists of places in an array, each in memory of its own. -/
structure LsI (W : World) (lv : Value) (vs : List Value) (ls : List (List Nat)) : Prop where
  own : W.ownsRow 0 23 1 lv vs.length vs
  len : vs.length = ls.length
  each : ∀ (i : Nat) (v : Value) (ps : List Nat), vs[i]? = some v → ls[i]? = some ps → OwnI 0 W v (ps.map Int.ofNat)

/-- The parts of a lookup, by numbers: 0 its box, 1 its table, 2 the table's keys, 3 the array of lists, 4 and more the lists. -/
structure Parts (kd : Nat → Nat) (xb tb pb : Nat) (cv : Value) (fp : List LK) (lv : Value) (vs : List Value) : Prop where
  box : kd xb = 0
  tab : ∀ k, foot tb pb cv k → kd k = 1
  keys : ∀ k, fnfoot fp k → kd k = 2
  arr : ∀ k, lv.ownBlock = some k → kd k = 3
  lists : ∀ (i : Nat) (v : Value) k, vs[i]? = some v → v.ownBlock = some k → kd k = 4 + i

structure Lk (W : World) (F : Nat → Prop) (xb c : Nat) (T : List (List Int)) (tb : Nat) (fp : List LK) (cv : Value) (pb N len reach : Nat) (came : List E) (places : List Nat) (lv : Value) (vs : List Value) (ls : List (List Nat)) (kd : Nat → Nat) : Prop where
  box : W.heap[xb]? = some (.cells #[.int .u16 c, .pointer (some ⟨tb, 0, none⟩), lv] 97 (0, 0))
  tab : Tab W tb fp cv pb N len reach came places
  lst : LsI W lv vs ls
  cont : Cont c T came ls
  parts : Parts kd xb tb pb cv fp lv vs
  own : F xb ∧ (∀ k, foot tb pb cv k → F k) ∧ (∀ k, fnfoot fp k → F k) ∧ (∀ k, lv.ownBlock = some k → F k) ∧ ∀ (i : Nat) (v : Value) k, vs[i]? = some v → v.ownBlock = some k → F k
  lt : ∀ k, F k → k < W.heap.size
  col : c < 65536
  wide : ∀ t ∈ T, Lib.bitLen c ≤ t.length

/-- At block xb lies a lookup by the columns c, of the tuples T; all its blocks are in F. -/
def LkS (W : World) (F : Nat → Prop) (xb c : Nat) (T : List (List Int)) : Prop := ∃ tb fp cv pb N len reach came places lv vs ls kd, Lk W F xb c T tb fp cv pb N len reach came places lv vs ls kd

section
variable {W W' : World} {F : Nat → Prop} {xb c : Nat} {T : List (List Int)} {tb : Nat} {fp : List LK} {cv : Value} {pb N len reach : Nat} {came : List E} {places : List Nat} {lv : Value} {vs : List Value} {ls : List (List Nat)} {kd : Nat → Nat}

theorem ownI_turn {S : Nat → Prop} {base : Nat} {v : Value} {zs : List Int} (h : OwnI base W v zs) (ht : Turn S W W') (hn : ∀ k, v.ownBlock = some k → ¬ S k) : OwnI base W' v zs := ht.row h hn

theorem LsI.turn {S : Nat → Prop} (h : LsI W lv vs ls) (ht : Turn S W W') (ha : ∀ k, lv.ownBlock = some k → ¬ S k) (hv : ∀ (i : Nat) (v : Value) k, vs[i]? = some v → v.ownBlock = some k → ¬ S k) : LsI W' lv vs ls :=
  ⟨ht.row h.own ha, h.len, fun i v ps h1 h2 => ownI_turn (h.each i v ps h1 h2) ht (fun k hk => hv i v k h1 hk)⟩

theorem Lk.turn {S : Nat → Prop} (h : Lk W F xb c T tb fp cv pb N len reach came places lv vs ls kd) (ht : Turn S W W') (hn : ∀ k, F k → ¬ S k) : Lk W' F xb c T tb fp cv pb N len reach came places lv vs ls kd :=
  { h with
    box := ht.heap h.box (hn _ h.own.1)
    tab := h.tab.turn ht (fun k hk => hn k (h.own.2.1 k hk)) (fun k hk => hn k (h.own.2.2.1 k hk))
    lst := h.lst.turn ht (fun k hk => hn k (h.own.2.2.2.1 k hk)) (fun i v k h1 h2 => hn k (h.own.2.2.2.2 i v k h1 h2))
    lt := fun k hk => Nat.lt_of_lt_of_le (h.lt k hk) ht.size }

theorem LkS.turn {S : Nat → Prop} (h : LkS W F xb c T) (ht : Turn S W W') (hn : ∀ k, F k → ¬ S k) : LkS W' F xb c T := by
  obtain ⟨tb, fp, cv, pb, N, len, reach, came, places, lv, vs, ls, kd, h⟩ := h
  exact ⟨_, _, _, _, _, _, _, _, _, _, _, _, _, h.turn ht hn⟩
theorem LkS.stay (h : LkS W F xb c T) (ht : Stay W W') : LkS W' F xb c T := h.turn (S := fun _ => False) (Turn.of_stay ht) (fun _ _ e => e)
theorem Lk.stay (h : Lk W F xb c T tb fp cv pb N len reach came places lv vs ls kd) (ht : Stay W W') : Lk W' F xb c T tb fp cv pb N len reach came places lv vs ls kd := h.turn (S := fun _ => False) (Turn.of_stay ht) (fun _ _ e => e)
theorem LkS.grow {F' : Nat → Prop} (h : LkS W F xb c T) (hF : ∀ k, F k → F' k) (hl : ∀ k, F' k → k < W.heap.size) : LkS W F' xb c T := by
  obtain ⟨tb, fp, cv, pb, N, len, reach, came, places, lv, vs, ls, kd, h⟩ := h
  exact ⟨_, _, _, _, _, _, _, _, _, _, _, _, _, { h with own := ⟨hF _ h.own.1, fun k hk => hF k (h.own.2.1 k hk), fun k hk => hF k (h.own.2.2.1 k hk), fun k hk => hF k (h.own.2.2.2.1 k hk), fun i v k h1 h2 => hF k (h.own.2.2.2.2 i v k h1 h2)⟩, lt := hl }⟩

theorem Lk.c0 (h : Lk W F xb c T tb fp cv pb N len reach came places lv vs ls kd) : W.cell? ⟨xb, 0, none⟩ = some (.int .u16 c) := by simp [World.cell?, h.box]
theorem Lk.c1 (h : Lk W F xb c T tb fp cv pb N len reach came places lv vs ls kd) : W.cell? ⟨xb, 1, none⟩ = some (.pointer (some ⟨tb, 0, none⟩)) := by simp [World.cell?, h.box]
theorem Lk.c2 (h : Lk W F xb c T tb fp cv pb N len reach came places lv vs ls kd) : W.cell? ⟨xb, 2, none⟩ = some lv := by simp [World.cell?, h.box]
theorem Lk.free (h : Lk W F xb c T tb fp cv pb N len reach came places lv vs ls kd) (k : Nat) : W.frozen? ⟨xb, k, none⟩ = false := by simp [World.frozen?, h.box]

/-- A list that lies in memory, as a key that is asked for. -/
theorem Lk.ask (h : Lk W F xb c T tb fp cv pb N len reach came places lv vs ls kd) (k : LK) (hk : IntsS W k.a k.b k.off k.l) (hl : k.l.length ≤ maxLen) (hn : 0 < k.l.length → ¬ F k.b) : Tab W tb (k :: fp) cv pb N len reach came places :=
  h.tab.more k hk hl (fun h0 hf => hn h0 (h.own.2.1 _ hf))

theorem Lk.no (h : Lk W F xb c T tb fp cv pb N len reach came places lv vs ls kd) {k : LK} (h0 : plc c T k.l = []) : ∀ (t : Nat) (e : E), came[t]? = some e → e.there = true → sm (k :: fp) e.key k = false := by
  intro t e he _
  have := (h.cont.none_iff k.l).1 h0 t e he
  simp [sm, this]

/-- Of a lookup the keys that came, one by one. -/
theorem Lk.yes (h : Lk W F xb c T tb fp cv pb N len reach came places lv vs ls kd) {k : LK} (h0 : plc c T k.l ≠ []) : ∃ (t : Nat) (e : E), came[t]? = some e ∧ e.there = true ∧ sm (k :: fp) e.key k = true ∧ Holds ls e.val (plc c T k.l) ∧ e.key.l = k.l := by
  obtain ⟨t, e, he, hk⟩ := h.cont.all _ h0
  exact ⟨t, e, he, h.cont.there t e he, by simp [sm, hk], by rw [← hk]; exact h.cont.val t e he, hk⟩

set_option maxRecDepth 100000 in
/-- only: what stands by a key. -/
theorem only_no (h : Lk W F xb c T tb fp cv pb N len reach came places lv vs ls kd) (k : LK) (hk : IntsS W k.a k.b k.off k.l) (hl : k.l.length ≤ maxLen) (hn : 0 < k.l.length → ¬ F k.b) (h0 : plc c T k.l = []) :
    Calls Try.prog 60 #[.pointer (some ⟨xb, 0, none⟩), k.v] W fun e w' => e = .returned (.tuple #[.int .i64 0, .bool false]) ∧ Stay W w' := by
  have hg := get_no (h.ask k hk hl hn) k (List.mem_cons_self ..) (h.no h0)
  have c1 := h.c1
  clear h hk
  go_enter Try.func60, Try.ntmps60
  go_wp2_with (go_at_call 62; refine hg.mono ?_; rintro e w9 ⟨rfl, hs⟩; have HS : Hid (Stay W w9) := hs; clear hs)
  go_ret2
  exact ⟨rfl, HS.out⟩

set_option maxRecDepth 100000 in
theorem only_yes (h : Lk W F xb c T tb fp cv pb N len reach came places lv vs ls kd) (k : LK) (hk : IntsS W k.a k.b k.off k.l) (hl : k.l.length ≤ maxLen) (hn : 0 < k.l.length → ¬ F k.b) {p : Nat} (h0 : plc c T k.l = [p]) :
    Calls Try.prog 60 #[.pointer (some ⟨xb, 0, none⟩), k.v] W fun e w' => e = .returned (.tuple #[.int .i64 p, .bool true]) ∧ Stay W w' := by
  obtain ⟨t, e, he, hth, hs, hH, _⟩ := h.yes (k := k) (by rw [h0]; simp)
  have hv : e.val = p := by
    rcases hH with ⟨q, h1, h2⟩ | ⟨j, _, _, h2⟩
    · rw [h0] at h2
      simp only [List.cons.injEq, and_true] at h2
      rw [h1, h2]
    · rw [h0] at h2; simp at h2
  have hg := get_yes (h.ask k hk hl hn) k (List.mem_cons_self ..) he hth hs
  rw [hv] at hg
  have c1 := h.c1
  clear h hk
  go_enter Try.func60, Try.ntmps60
  go_wp2_with (go_at_call 62; refine hg.mono ?_; rintro e w9 ⟨rfl, hs⟩; have HS : Hid (Stay W w9) := hs; clear hs)
  go_ret2
  exact ⟨rfl, HS.out⟩

/-- keys: how many unlike keys came. -/
theorem keys_any (h : Lk W F xb c T tb fp cv pb N len reach came places lv vs ls kd) : Calls Try.prog 45 #[.pointer (some ⟨xb, 0, none⟩)] W fun e w' => e = .returned (.int .i64 (len : Int)) ∧ w' = W := by
  have hg := len_yes h.tab
  have c1 := h.c1
  clear h
  go_enter Try.func45, Try.ntmps45
  go_wp2_with (go_at_call 64; refine hg.mono ?_; rintro e w9 ⟨rfl, hw⟩; have hw' := hw.symm; subst hw')
  go_ret
  exact ⟨rfl, rfl⟩
end
end Go.Proofs.Ytnhmjheipfopoaa.L
namespace Go.Proofs.Ytnhmjheipfopoaa.L
open Go.RowKit Go.Maps Go.Proofs.Ytnhmjheipfopoaa

set_option maxRecDepth 100000 in
set_option maxHeartbeats 1000000 in
theorem newLookup_any (w : World) (c : Nat) (hc : c < 65536) : Calls Try.prog 50 #[.agg (rowV c)] w fun e w' => ∃ xb, e = .returned (.pointer (some ⟨xb, 0, none⟩)) ∧ w.heap.size ≤ xb ∧ LkS w' (fun k => w.heap.size ≤ k ∧ k < w'.heap.size) xb c [] ∧ Stay w w' := by
  obtain ⟨V, hV⟩ : ∃ V, V = rowV c := ⟨_, rfl⟩
  have HV : Hid (V = rowV c) := hV
  rw [← hV]
  clear hV
  have hn := new_any (w := w.alloc (.cells V 64)) (fp := []) (fun k hk => by simp at hk)
  have hcol : ∀ W, Calls Try.prog 69 #[.agg V] W fun e w' => e = .returned (.int .u16 c) ∧ Stay W w' := fun W => by rw [HV.out]; exact columns_any W c hc
  go_enter Try.func50, Try.ntmps50
  go_wp2_with (first
    | (go_at_call 66; refine hn.mono ?_; rintro e w1 ⟨rfl, hT1, hs1⟩; have H1 : Hid (Tab w1 ((w.alloc (.cells V 64)).heap.size + 1) [] (.slice none 0 0) (w.alloc (.cells V 64)).heap.size 8 0 0 [] (List.replicate 8 0) ∧ Stay (w.alloc (.cells V 64)) w1) := ⟨hT1, hs1⟩; clear hT1 hs1 hn)
    | (refine wpList_load_row rfl 64 (.tmp 1) rfl w.heap.size rfl 64 V (0, 0) (.array 16 4) (H1.out.2.heap (heap_alloc_new _ _)) Try.underlying64 rfl (by rw [HV.out]; exact sizeRow' _) ?_)
    | (go_at_call 69; refine (hcol _).mono ?_; rintro e w2 ⟨rfl, hs2⟩; have H2 : Hid (Stay w1 w2) := hs2; clear hs2))
  go_ret
  obtain ⟨hT, hs1⟩ := H1.out
  have hs2 := H2.out
  have hz : (w.alloc (.cells V 64)).heap.size = w.heap.size + 1 := by simp
  rw [hz] at hT
  have hS : Stay w w2 := (Stay.new w _).trans (hs1.trans hs2)
  refine ⟨w2.heap.size, rfl, hS.size, ?_, hS.alloc _⟩
  have hT2 := hT.stay (hs2.alloc (.cells #[.int .u16 c, .pointer (some ⟨w.heap.size + 1 + 1, 0, none⟩), .slice none 0 0] 97))
  have hb := hT.lt (w.heap.size + 1 + 1) (.inl (.inl rfl))
  have hp := hT.lt (w.heap.size + 1) (.inl (.inr (.inl rfl)))
  have hz2 := hs2.size
  have hfoot : ∀ k, foot (w.heap.size + 1 + 1) (w.heap.size + 1) (.slice none 0 0) k → k = w.heap.size + 1 + 1 ∨ k = w.heap.size + 1 := by
    rintro k (rfl | rfl | h)
    · exact .inl rfl
    · exact .inr rfl
    · simp [Value.ownBlock] at h
  have hno : ∀ k, ¬ fnfoot [] k := by rintro k ⟨x, hx, _⟩; simp at hx
  refine ⟨w.heap.size + 1 + 1, [], .slice none 0 0, w.heap.size + 1, 8, 0, 0, [], List.replicate 8 0, .slice none 0 0, [], [], fun k => if k = w2.heap.size then 0 else 1, ?_⟩
  refine ⟨heap_new _ _, hT2, ⟨⟨rfl, .inl ⟨rfl, rfl⟩⟩, rfl, fun i v ps h => by simp at h⟩, Cont.empty c, ⟨by simp, ?_, fun k hk => absurd hk (hno k), fun k hk => by simp [Value.ownBlock] at hk, fun i v k h => by simp at h⟩, ⟨?_, ?_, fun k hk => absurd hk (hno k), fun k hk => by simp [Value.ownBlock] at hk, fun i v k h => by simp at h⟩, fun k hk => hk.2, hc, fun t ht => by simp at ht⟩
  · intro k hk
    have := hfoot k hk
    show (if k = w2.heap.size then 0 else 1) = 1
    rw [if_neg (by omega)]
  · simp; exact hS.size
  · intro k hk
    have := hfoot k hk
    simp; omega

section
variable {W W' : World} {F : Nat → Prop} {xb c : Nat} {T : List (List Int)} {tb : Nat} {fp : List LK} {cv : Value} {pb N len reach : Nat} {came : List E} {places : List Nat} {lv : Value} {vs : List Value} {ls : List (List Nat)} {kd : Nat → Nat}

/-- What lies at one of the lists. -/
theorem LsI.at (h : LsI W lv vs ls) {i : Nat} {ps : List Nat} (hi : ls[i]? = some ps) : ∃ g cap v, lv = .slice (some ⟨g, 0, none⟩) vs.length cap ∧ vs.length ≤ cap ∧ cap ≤ maxLen ∧ vs[i]? = some v ∧ W.cell? ⟨g, i, none⟩ = some v ∧ W.frozen? ⟨g, i, none⟩ = false ∧ OwnI 0 W v (ps.map Int.ofNat) := by
  have hil := (List.getElem?_eq_some_iff.1 hi).1
  have hl := h.len
  obtain ⟨v, hv⟩ : ∃ v, vs[i]? = some v := ⟨_, List.getElem?_eq_getElem (by omega)⟩
  have h0 := h.own
  rcases h0.2 with ⟨_, h2⟩ | ⟨g, cap, cur, hx, hb, hh, h1, h2, h3, h4⟩
  · have : vs = [] := by simpa using h2
    subst this; simp at hv
  · refine ⟨g, cap, v, hx, h1, h2, hv, ?_, by simp [World.frozen?, hh], h.each i v ps hv hi⟩
    rw [hx] at h0
    exact row_cell h0 i v hv

set_option maxRecDepth 100000 in
set_option maxHeartbeats 1000000 in
/-- places: the places of a key, as a list in memory. -/
theorem places_any (h : Lk W F xb c T tb fp cv pb N len reach came places lv vs ls kd) (hT : T.length ≤ 68719476736) (k : LK) (hk : IntsS W k.a k.b k.off k.l) (hl : k.l.length ≤ maxLen) (hn : 0 < k.l.length → ¬ F k.b) :
    Calls Try.prog 52 #[.pointer (some ⟨xb, 0, none⟩), k.v] W fun e w' => ∃ a b n cap, e = .returned (.slice a n cap) ∧ n = (plc c T k.l).length ∧ n ≤ cap ∧ cap ≤ maxLen ∧ (a = none → n = 0 ∧ cap = 0) ∧ (∀ x, a = some x → x = ⟨b, 0, none⟩) ∧ IntsS w' a b 0 ((plc c T k.l).map Int.ofNat) ∧ Stay W w' := by
  have c1 := h.c1
  by_cases h0 : plc c T k.l = []
  · have hg := get_no (h.ask k hk hl hn) k (List.mem_cons_self ..) (h.no h0)
    rw [h0]
    clear h hk
    go_enter Try.func52, Try.ntmps52
    go_wp2_with (go_at_call 62; refine hg.mono ?_; rintro e w9 ⟨rfl, hs⟩; have HS : Hid (Stay W w9) := hs; clear hs)
    go_ret
    exact ⟨none, 0, 0, 0, rfl, rfl, Nat.le_refl _, by unfold maxLen; omega, fun _ => ⟨rfl, rfl⟩, fun x hx => by simp at hx, ⟨fun h => by simp at h, fun j hj => by simp at hj⟩, HS.out⟩
  · obtain ⟨t, e, he, hth, hs, hH, _⟩ := h.yes h0
    have hg := get_yes (h.ask k hk hl hn) k (List.mem_cons_self ..) he hth hs
    rcases hH with ⟨p, hv, h2⟩ | ⟨j, hv, h2, h3⟩
    · rw [hv] at hg
      have hp0 : ¬ (p : Int) < 0 := by omega
      rw [h2]
      clear h hk
      go_enter Try.func52, Try.ntmps52
      go_wp2_with (go_at_call 62; refine hg.mono ?_; rintro e w9 ⟨rfl, hs⟩; have HS : Hid (Stay W w9) := hs; clear hs)
      go_ret
      exact ⟨_, w9.heap.size, 1, 1, rfl, rfl, Nat.le_refl _, by unfold maxLen; omega, fun h => by simp at h, fun x hx => (Option.some.inj hx).symm, ints_new _ [Int.ofNat p] _, HS.out.alloc _⟩
    · obtain ⟨g, cap, v, hlv, hc1, hc2, hvs, hcell, _, hown⟩ := h.lst.at h2
      have hfew := h.cont.few
      have hll := h.lst.len
      have hjl := (List.getElem?_eq_some_iff.1 h2).1
      have c2 := h.c2
      rw [hlv] at c2
      rw [hv] at hg
      have hlt : (-1 - (j : Int)) < 0 := by omega
      have hjj : (-1 - (-1 - (j : Int))) = j := by omega
      have hjv : (j : Int) < (vs.length : Int) := by omega
      have hjb : j ≤ 68719476736 := by omega
      obtain ⟨a6, b6, c6, rfl, hI⟩ := hown.ints
      have HO : Hid (OwnI 0 W (.slice a6 ((plc c T k.l).map Int.ofNat).length c6) ((plc c T k.l).map Int.ofNat) ∧ (IntsS W a6 b6 0 ((plc c T k.l).map Int.ofNat)) ∧ 2 ≤ (plc c T k.l).length) := ⟨hown, hI, h3⟩
      rw [List.length_map] at hcell
      clear h hk hown hI hvs h2 h3 h0 he hs hll hfew hjl hlv
      go_enter Try.func52, Try.ntmps52
      go_wp2_with (go_at_call 62; refine hg.mono ?_; rintro e w9 ⟨rfl, hs⟩; have HS : Hid (Stay W w9) := hs; have c2 := hs.cell c2; have hcell := hs.cell hcell; clear hs)
      go_ret
      obtain ⟨hO, hI, h2⟩ := HO.out
      have ha := hI.1 (by simp; omega)
      rcases hO.2 with ⟨hx, _⟩ | ⟨g2, c2', cur, hx, _, hh, h1, h5, _, _⟩
      · rw [ha] at hx; simp at hx
      · simp only [Value.slice.injEq] at hx
        obtain ⟨_, _, rfl⟩ := hx
        refine ⟨a6, b6, _, c6, rfl, by simp, by simpa using h1, h5, fun h => ?_, fun x hx => ?_, hI.stay HS.out, HS.out⟩
        · rw [h] at ha; simp at ha
        · rw [hx] at ha; exact Option.some.inj ha
end
end Go.Proofs.Ytnhmjheipfopoaa.L
