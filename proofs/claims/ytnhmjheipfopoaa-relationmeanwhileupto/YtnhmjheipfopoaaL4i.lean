/- A lookup in memory but for what it says: how its parts turn. join: the second tuple with its key. -/
import Derived.Test.YtnhmjheipfopoaaL4g
namespace Go.Proofs.Ytnhmjheipfopoaa.L
open Go.RowKit Go.Maps Go.Proofs.Ytnhmjheipfopoaa

structure Mk (W : World) (F : Nat → Prop) (xb c : Nat) (tb : Nat) (fp : List LK) (cv : Value) (pb N len reach : Nat) (came : List E) (places : List Nat) (lv : Value) (vs : List Value) (ls : List (List Nat)) (kd : Nat → Nat) : Prop where
  box : W.heap[xb]? = some (.cells #[.int .u16 c, .pointer (some ⟨tb, 0, none⟩), lv] 97 (0, 0))
  tab : Tab W tb fp cv pb N len reach came places
  lst : LsI W lv vs ls
  parts : Parts kd xb tb pb cv fp lv vs
  own : F xb ∧ (∀ k, foot tb pb cv k → F k) ∧ (∀ k, fnfoot fp k → F k) ∧ (∀ k, lv.ownBlock = some k → F k) ∧ ∀ (i : Nat) (v : Value) k, vs[i]? = some v → v.ownBlock = some k → F k
  lt : ∀ k, F k → k < W.heap.size

section
variable {W W' : World} {F : Nat → Prop} {xb c : Nat} {T : List (List Int)} {tb : Nat} {fp : List LK} {cv : Value} {pb N len reach : Nat} {came : List E} {places : List Nat} {lv : Value} {vs : List Value} {ls : List (List Nat)} {kd : Nat → Nat}

theorem Lk.mk' (h : Lk W F xb c T tb fp cv pb N len reach came places lv vs ls kd) : Mk W F xb c tb fp cv pb N len reach came places lv vs ls kd := ⟨h.box, h.tab, h.lst, h.parts, h.own, h.lt⟩
theorem Mk.lk (h : Mk W F xb c tb fp cv pb N len reach came places lv vs ls kd) (hc : Cont c T came ls) (hcol : c < 65536) (hw : ∀ t ∈ T, Lib.bitLen c ≤ t.length) : Lk W F xb c T tb fp cv pb N len reach came places lv vs ls kd := ⟨h.box, h.tab, h.lst, hc, h.parts, h.own, h.lt, hcol, hw⟩

theorem Mk.stay (h : Mk W F xb c tb fp cv pb N len reach came places lv vs ls kd) (hs : Stay W W') : Mk W' F xb c tb fp cv pb N len reach came places lv vs ls kd :=
  { h with
    box := hs.heap h.box
    tab := h.tab.stay hs
    lst := h.lst.turn (S := fun _ => False) (Turn.of_stay hs) (fun _ _ e => e) (fun _ _ _ _ _ e => e)
    lt := fun k hk => Nat.lt_of_lt_of_le (h.lt k hk) hs.size }

/-- One key more. -/
theorem Mk.ask (h : Mk W F xb c tb fp cv pb N len reach came places lv vs ls kd) {base : Nat} {k : LK} (hk : IntsS W k.a k.b k.off k.l) (hl : k.l.length ≤ maxLen) (hkb : 0 < k.l.length → base ≤ k.b ∧ k.b < W.heap.size) (hFb : ∀ j, F j → j < base) :
    ∃ kd', Mk W (Grow F base W) xb c tb (k :: fp) cv pb N len reach came places lv vs ls kd' := by
  have hkF : 0 < k.l.length → ¬ F k.b := fun h0 hf => by have := hFb _ hf; have := hkb h0; omega
  have hkN : ∀ j, F j → ¬ (0 < k.l.length ∧ j = k.b) := fun j hf q => hkF q.1 (q.2 ▸ hf)
  have hfn : ∀ j, fnfoot (k :: fp) j → fnfoot fp j ∨ (0 < k.l.length ∧ j = k.b) := by
    rintro j ⟨y, hy, h0, rfl⟩
    rcases List.mem_cons.1 hy with rfl | hy
    · exact .inr ⟨h0, rfl⟩
    · exact .inl ⟨y, hy, h0, rfl⟩
  refine ⟨fun j => if 0 < k.l.length ∧ j = k.b then 2 else kd j, h.box, h.tab.more k hk hl (fun h0 hf => hkF h0 (h.own.2.1 _ hf)), h.lst, ⟨?_, ?_, ?_, ?_, ?_⟩, ⟨.inl h.own.1, fun j hj => .inl (h.own.2.1 j hj), ?_, fun j hj => .inl (h.own.2.2.2.1 j hj), fun i v j h1 h2 => .inl (h.own.2.2.2.2 i v j h1 h2)⟩, ?_⟩
  · show (if _ then 2 else kd xb) = 0
    rw [if_neg (hkN _ h.own.1), h.parts.box]
  · intro j hj
    show (if _ then 2 else kd j) = 1
    rw [if_neg (hkN _ (h.own.2.1 j hj)), h.parts.tab j hj]
  · intro j hj
    show (if _ then 2 else kd j) = 2
    rcases hfn j hj with hf | hf
    · rw [if_neg (hkN _ (h.own.2.2.1 j hf)), h.parts.keys j hf]
    · rw [if_pos hf]
  · intro j hj
    show (if _ then 2 else kd j) = 3
    rw [if_neg (hkN _ (h.own.2.2.2.1 j hj)), h.parts.arr j hj]
  · intro i v j h1 h2
    show (if _ then 2 else kd j) = 4 + i
    rw [if_neg (hkN _ (h.own.2.2.2.2 i v j h1 h2)), h.parts.lists i v j h1 h2]
  · intro j hj
    rcases hfn j hj with hf | ⟨h0, rfl⟩
    · exact .inl (h.own.2.2.1 j hf)
    · exact .inr (hkb h0)
  · rintro j (hf | hf)
    · exact h.lt j hf
    · exact hf.2

/-- Behind a Put of a key that is there. -/
theorem Mk.put (h : Mk W F xb c tb fp cv pb N len reach came places lv vs ls kd) {came' : List E} {places' : List Nat} (hT : Tab W' tb fp cv pb N len reach came' places') (hTn : Turn (foot tb pb cv) W W') : Mk W' F xb c tb fp cv pb N len reach came' places' lv vs ls kd := by
  refine ⟨hTn.heap h.box (fun hf => ?_), hT, h.lst.turn hTn (fun j hj hf => ?_) (fun i v j h1 h2 hf => ?_), h.parts, h.own, fun k hk => Nat.lt_of_lt_of_le (h.lt k hk) hTn.size⟩
  · have := h.parts.tab _ hf; rw [h.parts.box] at this; omega
  · have := h.parts.tab _ hf; rw [h.parts.arr j hj] at this; omega
  · have := h.parts.tab _ hf; rw [h.parts.lists i v j h1 h2] at this; omega

/-- Another array of lists with one list more. -/
theorem Mk.snoc (h : Mk W F xb c tb fp cv pb N len reach came places lv vs ls kd) {base : Nat} (hbase : base ≤ W.heap.size) {W1 : World} (hs : Stay W W1) {lv' : Value} {v' : Value} {ps : List Nat} (hv : OwnI W.heap.size W1 v' (ps.map Int.ofNat)) (hvo : ∃ g, v'.ownBlock = some g)
    (hown : W'.ownsRow 0 23 1 lv' (vs.length + 1) (vs ++ [v'])) (hgrow : W1.grownBy W' lv.ownBlock) (hloc : lv'.ownBlock = lv.ownBlock ∨ lv'.ownBlock = some W1.heap.size) :
    ∃ kd', Mk (W'.setCell ⟨xb, 2, none⟩ lv') (Grow F base W') xb c tb fp cv pb N len reach came places lv' (vs ++ [v']) (ls ++ [ps]) kd' ∧ Turn F W (W'.setCell ⟨xb, 2, none⟩ lv') ∧ W'.cell? ⟨xb, 2, none⟩ = some lv ∧ W'.frozen? ⟨xb, 2, none⟩ = false := by
  obtain ⟨g1, hg1⟩ := hvo
  have hg1l : W.heap.size ≤ g1 ∧ g1 < W1.heap.size := by
    refine ⟨?_, own_at hv hg1⟩
    rcases hv.2 with ⟨rfl, _⟩ | ⟨g, c2, cur, rfl, hb, _⟩
    · simp [Value.ownBlock] at hg1
    · simp only [Value.ownBlock, Option.some.injEq] at hg1; omega
  have hT1 : Turn (fun j => lv.ownBlock = some j) W W' := by
    refine ⟨hgrow.os.trans hs.os, hgrow.tape.trans hs.tape, hgrow.output.trans hs.output, Nat.le_trans hs.size hgrow.size, fun j hj hn => ?_⟩
    exact (hgrow.block j (Nat.lt_of_lt_of_le hj hs.size) (fun e => hn e.symm)).trans (hs.block j hj)
  have hxn : lv.ownBlock ≠ some xb := fun e => by have := h.parts.arr xb e; rw [h.parts.box] at this; omega
  have hxl := h.lt _ h.own.1
  have hbox' : W'.heap[xb]? = some (.cells #[.int .u16 c, .pointer (some ⟨tb, 0, none⟩), lv] 97 (0, 0)) := hT1.heap h.box hxn
  have hT2 : Turn (fun j => lv.ownBlock = some j ∨ j = xb) W (W'.setCell ⟨xb, 2, none⟩ lv') := (hT1.mono (fun i _ hi => .inl hi)).set (.inr rfl) _ _
  have hsz := hT2.size
  have hszc : (W'.setCell ⟨xb, 2, none⟩ lv').heap.size = W'.heap.size := by simp [World.setCell]
  have hlo : ∀ j, lv'.ownBlock = some j → lv.ownBlock = some j ∨ (W1.heap.size = j) := by
    intro j hj
    rcases hloc with e | e
    · exact .inl (e ▸ hj)
    · rw [e] at hj; exact .inr (Option.some.inj hj)
  have hlt' : ∀ j, lv'.ownBlock = some j → j < W'.heap.size := fun j hj => own_at hown hj
  have hlv'x : lv'.ownBlock ≠ some xb := by
    intro e
    rcases hlo xb e with h1 | h1
    · exact hxn h1
    · have := hs.size; omega
  have hlen := h.lst.len
  refine ⟨fun j => if j < W.heap.size then kd j else if j = g1 then 4 + vs.length else 3, ⟨?_, ?_, ⟨?_, by simp [hlen], ?_⟩, ⟨?_, ?_, ?_, ?_, ?_⟩, ⟨?_, ?_, ?_, ?_, ?_⟩, ?_⟩, hT2.mono (fun i _ hi => ?_), by simp [World.cell?, hbox'], by simp [World.frozen?, hbox']⟩
  · rw [heap_setCell_same _ _ _ _ _ _ hbox']; simp
  · refine h.tab.turn hT2 (fun j hj => ?_) (fun j hj => ?_)
    · rintro (e | rfl)
      · have := h.parts.arr j e; rw [h.parts.tab j hj] at this; omega
      · have := h.parts.box; rw [h.parts.tab _ hj] at this; omega
    · rintro (e | rfl)
      · have := h.parts.arr j e; rw [h.parts.keys j hj] at this; omega
      · have := h.parts.box; rw [h.parts.keys _ hj] at this; omega
  · have : (W'.setCell ⟨xb, 2, none⟩ lv').ownsRow 0 23 1 lv' (vs.length + 1) (vs ++ [v']) := ((Turn.refl (fun j => j = xb) W').set (g := xb) rfl 2 lv').row hown (fun j hj e => hlv'x (e ▸ hj))
    simpa using this
  · intro i v qs h1 h2
    by_cases hi : i < vs.length
    · rw [List.getElem?_append_left hi] at h1
      rw [List.getElem?_append_left (by omega)] at h2
      refine ownI_turn (h.lst.each i v qs h1 h2) hT2 (fun j hj => ?_)
      rintro (e | rfl)
      · have := h.parts.arr j e; rw [h.parts.lists i v j h1 hj] at this; omega
      · have := h.parts.box; rw [h.parts.lists i v _ h1 hj] at this; omega
    · have hil := (List.getElem?_eq_some_iff.1 h1).1
      rw [List.length_append, List.length_singleton] at hil
      obtain rfl : i = vs.length := by omega
      rw [hlen] at h2
      simp at h1 h2
      subst h1; subst h2
      have hv1 : OwnI 0 W1 v' (ps.map Int.ofNat) := hv.mono (Nat.zero_le _)
      have hT3 : Turn (fun j => lv.ownBlock = some j ∨ j = xb) W1 (W'.setCell ⟨xb, 2, none⟩ lv') := by
        have q : Turn (fun j => lv.ownBlock = some j) W1 W' := ⟨hgrow.os, hgrow.tape, hgrow.output, hgrow.size, fun j hj hn => hgrow.block j hj (fun e => hn e.symm)⟩
        exact (q.mono (fun i _ hi => .inl hi)).set (.inr rfl) _ _
      refine ownI_turn hv1 hT3 (fun j hj => ?_)
      rw [hg1] at hj
      obtain rfl := Option.some.inj hj
      rintro (e | rfl)
      · have := h.lt _ (h.own.2.2.2.1 _ e); omega
      · omega
  · show (if xb < W.heap.size then kd xb else _) = 0
    rw [if_pos hxl, h.parts.box]
  · intro j hj
    show (if j < W.heap.size then kd j else _) = 1
    rw [if_pos (h.lt _ (h.own.2.1 j hj)), h.parts.tab j hj]
  · intro j hj
    show (if j < W.heap.size then kd j else _) = 2
    rw [if_pos (h.lt _ (h.own.2.2.1 j hj)), h.parts.keys j hj]
  · intro j hj
    show (if j < W.heap.size then kd j else if j = g1 then 4 + vs.length else 3) = 3
    rcases hlo j hj with e | e
    · rw [if_pos (h.lt _ (h.own.2.2.2.1 j e)), h.parts.arr j e]
    · have := hs.size
      rw [if_neg (by omega), if_neg (by omega)]
  · intro i v j h1 h2
    show (if j < W.heap.size then kd j else if j = g1 then 4 + vs.length else 3) = 4 + i
    by_cases hi : i < vs.length
    · rw [List.getElem?_append_left hi] at h1
      rw [if_pos (h.lt _ (h.own.2.2.2.2 i v j h1 h2)), h.parts.lists i v j h1 h2]
    · have hil := (List.getElem?_eq_some_iff.1 h1).1
      rw [List.length_append, List.length_singleton] at hil
      obtain rfl : i = vs.length := by omega
      simp at h1
      subst h1
      rw [hg1] at h2
      obtain rfl := Option.some.inj h2
      rw [if_neg (by omega), if_pos rfl]
  · exact .inl h.own.1
  · intro j hj; exact .inl (h.own.2.1 j hj)
  · intro j hj; exact .inl (h.own.2.2.1 j hj)
  · intro j hj
    rcases hlo j hj with e | e
    · exact .inl (h.own.2.2.2.1 j e)
    · have := hs.size; exact .inr ⟨by omega, hlt' j hj⟩
  · intro i v j h1 h2
    by_cases hi : i < vs.length
    · rw [List.getElem?_append_left hi] at h1
      exact .inl (h.own.2.2.2.2 i v j h1 h2)
    · have hil := (List.getElem?_eq_some_iff.1 h1).1
      rw [List.length_append, List.length_singleton] at hil
      obtain rfl : i = vs.length := by omega
      simp at h1
      subst h1
      rw [hg1] at h2
      obtain rfl := Option.some.inj h2
      have := hgrow.size
      exact .inr ⟨by omega, by omega⟩
  · rintro j (hf | hf)
    · have := h.lt j hf; omega
    · omega
  · rcases hi with e | rfl
    · exact h.own.2.2.2.1 i e
    · exact h.own.1

/-- One of the lists is another one, with what it had first. -/
theorem Mk.setList (h : Mk W F xb c tb fp cv pb N len reach came places lv vs ls kd) {base : Nat} {i : Nat} {g cap : Nat} {v v' : Value} {qs : List Nat} (hlv : lv = .slice (some ⟨g, 0, none⟩) vs.length cap) (hv : vs[i]? = some v)
    {W1 : World} (hs : Stay W W1) (hbase : base ≤ W.heap.size) (hown : OwnI 0 W' v' (qs.map Int.ofNat)) (hgrow : W1.grownBy W' v.ownBlock) (hloc : v'.ownBlock = v.ownBlock ∨ v'.ownBlock = some W1.heap.size) :
    ∃ kd', Mk (W'.setCell ⟨g, i, none⟩ v') (Grow F base (W'.setCell ⟨g, i, none⟩ v')) xb c tb fp cv pb N len reach came places lv (vs.set i v') (ls.set i qs) kd' ∧ Turn F W (W'.setCell ⟨g, i, none⟩ v') := by
  have hil := (List.getElem?_eq_some_iff.1 hv).1
  have hlen := h.lst.len
  have hT1 : Turn (fun j => v.ownBlock = some j) W W' := by
    refine ⟨hgrow.os.trans hs.os, hgrow.tape.trans hs.tape, hgrow.output.trans hs.output, Nat.le_trans hs.size hgrow.size, fun j hj hn => ?_⟩
    exact (hgrow.block j (Nat.lt_of_lt_of_le hj hs.size) (fun e => hn e.symm)).trans (hs.block j hj)
  have hT2 : Turn (fun j => v.ownBlock = some j ∨ j = g) W (W'.setCell ⟨g, i, none⟩ v') := (hT1.mono (fun i _ hi => .inl hi)).set (.inr rfl) _ _
  have hlg : lv.ownBlock = some g := by rw [hlv]; rfl
  have hgk := h.parts.arr g hlg
  have hgl := h.lt _ (h.own.2.2.2.1 g hlg)
  have hsz := hT2.size
  have hszc : (W'.setCell ⟨g, i, none⟩ v').heap.size = W'.heap.size := by simp [World.setCell]
  have hlo : ∀ j, v'.ownBlock = some j → v.ownBlock = some j ∨ W1.heap.size = j := by
    intro j hj
    rcases hloc with e | e
    · exact .inl (e ▸ hj)
    · rw [e] at hj; exact .inr (Option.some.inj hj)
  have hvg : ∀ j, v.ownBlock = some j → kd j = 4 + i := fun j hj => h.parts.lists i v j hv hj
  have hrow : W'.ownsRow 0 23 1 lv vs.length vs := hT1.row h.lst.own (fun j hj e => by have := hvg j e; rw [h.parts.arr j hj] at this; omega)
  have hset : (W'.setCell ⟨g, i, none⟩ v').ownsRow 0 23 1 lv (vs.set i v').length (vs.set i v') := by
    refine ⟨by simp, .inr ?_⟩
    rcases hrow.2 with ⟨hx, _⟩ | ⟨g2, c2, cur, hx, hb, hh, h1, h2, h3, h4⟩
    · rw [hlv] at hx; simp at hx
    · rw [hlv] at hx
      simp only [Value.slice.injEq, Option.some.injEq, Addr.mk.injEq, and_true, true_and] at hx
      obtain ⟨rfl, rfl⟩ := hx
      refine ⟨g, cap, _, by rw [hlv, List.length_set], hb, heap_setCell_same _ _ _ _ _ _ hh, by rw [List.length_set]; exact h1, h2, by simpa using h3, ?_⟩
      rw [List.length_set, Array.toList_setIfInBounds, List.take_set, h4]
  refine ⟨fun j => if j < W.heap.size then kd j else 4 + i, ⟨?_, ?_, ⟨?_, by simpa using hlen, ?_⟩, ⟨?_, ?_, ?_, ?_, ?_⟩, ⟨?_, ?_, ?_, ?_, ?_⟩, ?_⟩, hT2.mono (fun j _ hj => ?_)⟩
  · refine hT2.heap h.box ?_
    rintro (e | e)
    · have := hvg _ e; rw [h.parts.box] at this; omega
    · have := h.parts.box; rw [e, hgk] at this; omega
  · refine h.tab.turn hT2 (fun j hj => ?_) (fun j hj => ?_)
    · rintro (e | rfl)
      · have := hvg _ e; rw [h.parts.tab j hj] at this; omega
      · rw [h.parts.tab _ hj] at hgk; omega
    · rintro (e | rfl)
      · have := hvg _ e; rw [h.parts.keys j hj] at this; omega
      · rw [h.parts.keys _ hj] at hgk; omega
  · have := hset
    rw [List.length_set] at this ⊢
    exact this
  · intro k x ps h1 h2
    by_cases hk : k = i
    · subst hk
      rw [List.getElem?_set_self hil] at h1
      rw [List.getElem?_set_self (by omega)] at h2
      obtain rfl := Option.some.inj h1
      obtain rfl := Option.some.inj h2
      refine ownI_turn hown ((Turn.refl (fun j => j = g) W').set (g := g) rfl k v') (fun j hj => ?_)
      rintro rfl
      rcases hlo _ hj with e | e
      · have := hvg _ e; omega
      · have := hs.size; omega
    · rw [List.getElem?_set_ne (Ne.symm hk)] at h1 h2
      refine ownI_turn (h.lst.each k x ps h1 h2) hT2 (fun j hj => ?_)
      have hkj := h.parts.lists k x j h1 hj
      rintro (e | rfl)
      · have := hvg _ e; omega
      · omega
  · show (if xb < W.heap.size then kd xb else _) = 0
    rw [if_pos (h.lt _ h.own.1), h.parts.box]
  · intro j hj
    show (if j < W.heap.size then kd j else _) = 1
    rw [if_pos (h.lt _ (h.own.2.1 j hj)), h.parts.tab j hj]
  · intro j hj
    show (if j < W.heap.size then kd j else _) = 2
    rw [if_pos (h.lt _ (h.own.2.2.1 j hj)), h.parts.keys j hj]
  · intro j hj
    show (if j < W.heap.size then kd j else _) = 3
    rw [if_pos (h.lt _ (h.own.2.2.2.1 j hj)), h.parts.arr j hj]
  · intro k x j h1 h2
    show (if j < W.heap.size then kd j else 4 + i) = 4 + k
    by_cases hk : k = i
    · subst hk
      rw [List.getElem?_set_self hil] at h1
      obtain rfl := Option.some.inj h1
      rcases hlo j h2 with e | e
      · rw [if_pos (h.lt _ (h.own.2.2.2.2 k v j hv e)), hvg j e]
      · have := hs.size; rw [if_neg (by omega)]
    · rw [List.getElem?_set_ne (Ne.symm hk)] at h1
      rw [if_pos (h.lt _ (h.own.2.2.2.2 k x j h1 h2)), h.parts.lists k x j h1 h2]
  · exact .inl h.own.1
  · intro j hj; exact .inl (h.own.2.1 j hj)
  · intro j hj; exact .inl (h.own.2.2.1 j hj)
  · intro j hj; exact .inl (h.own.2.2.2.1 j hj)
  · intro k x j h1 h2
    by_cases hk : k = i
    · subst hk
      rw [List.getElem?_set_self hil] at h1
      obtain rfl := Option.some.inj h1
      rcases hlo j h2 with e | e
      · exact .inl (h.own.2.2.2.2 k v j hv e)
      · have := hs.size; exact .inr ⟨by omega, by rw [hszc]; exact own_at hown h2⟩
    · rw [List.getElem?_set_ne (Ne.symm hk)] at h1
      exact .inl (h.own.2.2.2.2 k x j h1 h2)
  · rintro j (hf | hf)
    · have := h.lt j hf; omega
    · exact hf.2
  · rcases hj with e | rfl
    · exact h.own.2.2.2.2 i v j hv e
    · exact h.own.2.2.2.1 _ hlg
end
end Go.Proofs.Ytnhmjheipfopoaa.L
namespace Go.Proofs.Ytnhmjheipfopoaa.L
open Go.RowKit Go.Maps Go.Proofs.Ytnhmjheipfopoaa

theorem infoInts : (Try.prog.info? 23).map (fun i => (i.zero, i.size, i.bytes)) = some (some (.slice none 0 0), 1, 24) := by kernel_rfl

theorem own_form {w : World} {t : TypeId} {v : Value} {n : Nat} {xs : List Value} (h : w.ownsRow 0 t 1 v n xs) (hx : n ≠ 0) : ∃ g cap, v = .slice (some ⟨g, 0, none⟩) n cap := by
  rcases h.2 with ⟨_, h2⟩ | ⟨g, cap, cur, hv, _⟩
  · exact absurd h2 hx
  · exact ⟨g, cap, hv⟩

theorem wrap_neg (n : Nat) (h : n ≤ 68719476736) : IntKind.i64.wrap (-((n : Int) + 1)) = -((n : Int) + 1) := by
  rw [IntKind.wrap_i64]; omega

theorem new_cells' (w : World) (l : List Value) (t : TypeId) (n : Nat) (hn : n = w.heap.size) : ∀ j u, l[j]? = some u → (w.alloc (.cells l.toArray t)).cell? ((⟨n, 0, none⟩ : Addr).add j) = some u := by
  subst hn; exact new_cells w l t

section
variable {W W' : World} {F : Nat → Prop} {xb c : Nat} {T : List (List Int)} {tb : Nat} {fp : List LK} {cv : Value} {pb N len reach : Nat} {came : List E} {places : List Nat} {lv : Value} {vs : List Value} {ls : List (List Nat)} {kd : Nat → Nat}

set_option maxRecDepth 100000 in
set_option maxHeartbeats 2000000 in
theorem join_second (h : Lk W F xb c T tb fp cv pb N len reach came places lv vs ls kd) (hT : T.length + 1 ≤ 68719476736) (a : Option Addr) (b o cap : Nat) (t : List Int) (hI : IntsS W a b o t) (hl : t.length ≤ maxLen) (hw : Lib.bitLen c ≤ t.length)
    {i : Nat} {e : E} (he : came[i]? = some e) (hek : e.key.l = cutL t c) {p : Nat} (hev : e.val = p) :
    Calls Try.prog 43 #[.pointer (some ⟨xb, 0, none⟩), .slice a t.length cap, .int .i64 T.length] W fun e w' => e = .returned (.tuple #[]) ∧ LkS w' (Grow F W.heap.size w') xb c (T ++ [t]) ∧ Turn F W w' := by
  have hcut := cut_any W a b o cap c t hI hl h.col hw
  have hcl : (cutL t c).length ≤ maxLen := by
    have := cols_len c 16
    unfold cutL maxLen; rw [List.length_map]; omega
  have c0 := h.c0
  have c1 := h.c1
  have hth := h.cont.there i e he
  obtain ⟨i0, hi, hz0, hz1, hz2⟩ := info_parts infoInts
  have HH : Hid (Lk W F xb c T tb fp cv pb N len reach came places lv vs ls kd) := h
  have HE : Hid (came[i]? = some e ∧ e.there = true ∧ e.key.l = cutL t c ∧ e.val = p) := ⟨he, hth, hek, hev⟩
  have hfew := h.cont.few
  have hll := h.lst.len
  clear h hI
  go_enter Try.func43, Try.ntmps43
  go_wp2_with fail
  refine hcut.mono ?_
  rintro e1 w1 ⟨v, rfl, hown, hs1⟩
  obtain ⟨k, rfl, hk, hIk, hkl, hkb⟩ := own_key hown hcl
  have h1 := HH.out.stay hs1
  have hg := get_yes (h1.ask k hIk hkl (fun q hf => by have := HH.out.lt _ hf; have := (hkb q).1; omega)) k (List.mem_cons_self ..) he hth (by simp [sm, hek, hk])
  rw [hev] at hg
  have c1' := hs1.cell c1
  have HK : Hid (k.l = cutL t c ∧ IntsS w1 k.a k.b k.off k.l ∧ k.l.length ≤ maxLen ∧ (0 < k.l.length → W.heap.size ≤ k.b ∧ k.b < w1.heap.size) ∧ Stay W w1) := ⟨hk, hIk, hkl, hkb, hs1⟩
  have hp0 : ¬ (p : Int) < 0 := by omega
  clear hcut hown hs1 hk hIk hkl hkb h1 c0 c1 he hth hek hev
  go_wp2_with fail
  refine hg.mono ?_
  rintro e2 w2 ⟨rfl, hs2⟩
  have hsW : Stay W w2 := HK.out.2.2.2.2.trans hs2
  have HM2 : Hid (∃ kd2, Mk w2 (Grow F W.heap.size w2) xb c tb (k :: fp) cv pb N len reach came places lv vs ls kd2) := by
    obtain ⟨_, hIk, hkl, hkb, _⟩ := HK.out
    exact (HH.out.mk'.stay hsW).ask (hIk.stay hs2) hkl (fun q => ⟨(hkb q).1, Nat.lt_of_lt_of_le (hkb q).2 hs2.size⟩) (fun j hj => HH.out.lt j hj)
  have H2 : Hid (Stay W w2) := hsW
  obtain ⟨kd2, hM2⟩ := HM2.out
  have c1'' := hs2.cell c1'
  have c2 : w2.cell? ⟨xb, 2, none⟩ = some lv := by simp [World.cell?, hM2.box]
  have hownL := hM2.lst.own
  have HMM : Hid (Mk w2 (Grow F W.heap.size w2) xb c tb (k :: fp) cv pb N len reach came places lv vs ls kd2) := hM2
  have hown0 : (((w2.alloc (.cells #[.int .i64 p, .int .i64 T.length] 3)).alloc (.cells #[.slice (some ⟨w2.heap.size, 0, none⟩) 2 2] 23))).ownsRow 0 23 1 lv vs.length vs := (hownL.alloc _).alloc _
  have HV : Hid (OwnI w2.heap.size ((w2.alloc (.cells #[.int .i64 p, .int .i64 T.length] 3)).alloc (.cells #[.slice (some ⟨w2.heap.size, 0, none⟩) 2 2] 23)) (.slice (some ⟨w2.heap.size, 0, none⟩) 2 2) ([p, T.length].map Int.ofNat)) :=
    (own_block (zs := [p, T.length].map Int.ofNat) (Nat.le_refl _) (heap_new _ _) (by unfold maxLen; simp)).stay (Stay.new _ _)
  have hvl : vs.length ≤ 68719476736 := by omega
  have HLL : Hid (vs.length = ls.length) := hll
  clear hll
  clear hg hs2 c1' hsW hM2 hownL HM2
  go_wp2_with (at_builtin; refine wpList_append_own_at _ rfl _ _ 22 rfl 0 23 i0 _ 1 24 Try.underlying22 hi hz0 hz1 hz2 rfl (by decide) lv vs.length vs rfl hown0 ⟨w2.heap.size + 1, 0, none⟩ 1 1 [.slice (some ⟨w2.heap.size, 0, none⟩) 2 2] rfl rfl (new_cells' _ _ _ _ (by simp)) (by simp [Value.oneCell']) (by unfold maxLen; omega) (by omega) (Nat.zero_le _) ?_; intro lv' w3 hown3 hgrow hnil hloc; obtain ⟨g3, cap3, rfl⟩ := own_form hown3 (by omega); obtain ⟨kd3, hM3, hT3, d2, f2⟩ := HMM.out.snoc (base := w2.heap.size) (Nat.le_refl _) ((Stay.new w2 _).alloc _) HV.out ⟨_, rfl⟩ hown3 hgrow hloc; have H3 : Hid _ := And.intro hM3 hT3; clear hown3 hgrow hnil hloc hM3 hT3 hown0 c2)
  obtain ⟨hM3, hT3⟩ := H3.out
  have HW34 : Hid (w3.heap.size ≤ (w3.setCell ⟨xb, 2, none⟩ (.slice (some ⟨g3, 0, none⟩) (vs.length + 1) cap3)).heap.size) := by show (_ : Nat) ≤ _; simp [World.setCell]
  generalize w3.setCell ⟨xb, 2, none⟩ (.slice (some ⟨g3, 0, none⟩) (vs.length + 1) cap3) = w4 at hM3 hT3 HW34 ⊢
  have e1 : w4.cell? ⟨xb, 1, none⟩ = some (.pointer (some ⟨tb, 0, none⟩)) := by simp [World.cell?, hM3.box]
  have e2 : w4.cell? ⟨xb, 2, none⟩ = some (.slice (some ⟨g3, 0, none⟩) (vs.length + 1) cap3) := by simp [World.cell?, hM3.box]
  have hput : Calls Try.prog 63 #[.pointer (some ⟨tb, 0, none⟩), k.v, .int .i64 (-((vs.length : Int) + 1))] w4.drew fun e' w' => e' = .returned (.tuple #[.int .i64 p, .bool true, .int .i64 0]) ∧ LkS w' (Grow F W.heap.size w') xb c (T ++ [t]) ∧ Turn F W w' := by
    obtain ⟨he, hth, hek, hev⟩ := HE.out
    obtain ⟨hk, _, _, _, hs1⟩ := HK.out
    have hM4 := hM3.stay (Stay.drew w4)
    have hp := put_yes hM4.tab k (List.mem_cons_self ..) (-((vs.length : Int) + 1)) he hth (by simp [sm, hek, hk])
    rw [hev] at hp
    refine hp.mono ?_
    rintro e5 w5 ⟨rfl, hT5, hTn5⟩
    have hM5 := hM4.put hT5 hTn5
    have hc5 := HH.out.cont.second (t := t) he hek hev
    rw [← HLL.out] at hc5
    have hsz2 := H2.out.size
    have hsz4 := hT3.size
    have hsz5 := hTn5.size
    have hdz : w4.drew.heap.size = w4.heap.size := rfl
    have hlW := HH.out.lt
    have hS34 : w3.heap.size ≤ w4.heap.size := HW34.out
    refine ⟨rfl, LkS.grow ⟨_, _, _, _, _, _, _, _, _, _, _, _, _, hM5.lk hc5 HH.out.col ?_⟩ ?_ ?_, ((Turn.of_stay H2.out).then hT3 ?_).then ((Turn.of_stay (S := foot tb pb cv) (Stay.drew w4)).trans hTn5) ?_⟩
    · intro t' ht'
      rcases List.mem_append.1 ht' with h1 | h1
      · exact HH.out.wide t' h1
      · rw [List.mem_singleton.1 h1]; exact hw
    · rintro j ((h1 | h1) | h1)
      · exact .inl h1
      · exact .inr ⟨h1.1, by omega⟩
      · exact .inr ⟨by omega, by omega⟩
    · rintro j (h1 | h1)
      · have := hlW j h1; omega
      · exact h1.2
    · rintro j hj (h1 | h1)
      · exact h1
      · omega
    · intro j hj h1
      exact HH.out.own.2.1 j h1
  have hwr := wrap_neg vs.length hvl
  rw [← hwr] at hput
  clear hM3 hT3 H3 HMM HV d2 f2 c1'' HW34 hwr
  go_region_with (go_at_call 63; refine hput.mono ?_; rintro e5 w5 ⟨rfl, hr⟩; have HR : Hid _ := hr; clear hr)
  all_goals go_end0
  all_goals exact ⟨rfl, HR.out⟩
end
end Go.Proofs.Ytnhmjheipfopoaa.L
