/- The program's table beside the document's: what each is in memory, whose each block is; Put, Get, Take, Len, Size of each. -/
import Derived.Test.YtdnophgcdnghkaaJ3m
namespace Go.Proofs.Ytdnophgcdnghkaa.I
open Go.RowKit Go.Maps Go.Proofs.Ytdnophgcdnghkaa

theorem live_set : ∀ {came : List E} {t : Nat} {e e' : E}, came[t]? = some e → e.there = true → e'.there = true → live (came.set t e') = (live came).set (rank came t) e'
  | [], t, e, e', he, _, _ => by simp at he
  | x :: l, 0, e, e', he, h1, h2 => by
    simp at he
    subst he
    simp [live, rank, h1, h2]
  | x :: l, t + 1, e, e', he, h1, h2 => by
    have ih := live_set (came := l) (t := t) (by simpa using he) h1 h2
    cases hx : x.there
    · simp [live, rank, hx] at ih ⊢
      exact ih
    · simp [live, rank, hx] at ih ⊢
      exact ih
theorem live_gap : ∀ {came : List E} {t : Nat} {e : E}, came[t]? = some e → e.there = true → live (came.set t gap) = (live came).eraseIdx (rank came t)
  | [], t, e, he, _ => by simp at he
  | x :: l, 0, e, he, h1 => by
    simp at he
    subst he
    simp [live, rank, h1]
  | x :: l, t + 1, e, he, h1 => by
    have ih := live_gap (came := l) (t := t) (by simpa using he) h1
    cases hx : x.there
    · simp [live, rank, hx] at ih ⊢
      exact ih
    · simp [live, rank, hx] at ih ⊢
      exact ih
theorem map_erase {α β : Type} (f : α → β) (l : List α) (b : Nat) : (l.eraseIdx b).map f = (l.map f).eraseIdx b := by
  rw [List.eraseIdx_eq_take_drop_succ, List.eraseIdx_eq_take_drop_succ, List.map_append, List.map_take, List.map_drop]
theorem pick_some {came : List E} {ps : List (Int × Int)} {way key : Int} {i : Nat} (hps : (live came).map kv = ps) (ho : atN way ps key = some i) :
    ∃ (t : Nat) (e : E), came[t]? = some e ∧ e.there = true ∧ sameOf way e.key key = true ∧ (live came)[i]? = some e ∧ rank came t = i ∧ ps[i]? = some (e.key, e.val) := by
  unfold atN at ho
  rw [List.findIdx?_eq_some_iff_getElem] at ho
  obtain ⟨hi, hs, -⟩ := ho
  have hl : i < (live came).length := by rw [← hps, List.length_map] at hi; exact hi
  have hg : (live came)[i]? = some (live came)[i] := List.getElem?_eq_getElem hl
  obtain ⟨t, h1, h2, h3⟩ := rank_ex hg
  have hp : ps[i]? = some (kv (live came)[i]) := by rw [← hps, List.getElem?_map, hg]; rfl
  have hp2 : ps[i] = kv (live came)[i] := by rw [List.getElem?_eq_getElem hi] at hp; exact Option.some.inj hp
  rw [hp2] at hs
  exact ⟨t, _, h1, h2, hs, hg, h3, hp⟩
theorem pick_none {came : List E} {ps : List (Int × Int)} {way key : Int} (hps : (live came).map kv = ps) (ho : atN way ps key = none) (t : Nat) (e : E) (he : came[t]? = some e) (hth : e.there = true) : sameOf way e.key key = false := by
  unfold atN at ho
  rw [List.findIdx?_eq_none_iff] at ho
  have hm : e ∈ live came := List.mem_filter.2 ⟨List.mem_of_getElem? he, hth⟩
  have := ho (kv e) (by rw [← hps]; exact List.mem_map_of_mem hm)
  exact this

/-- What Put and Take leave of the pairs, and of the size. -/
def putP (way : Int) (ps : List (Int × Int)) (key val : Int) : List (Int × Int) := match atN way ps key with
  | some i => ps.set i ((ps[i]?.getD (0, 0)).1, val)
  | none => ps ++ [(key, val)]
def putN (way : Int) (ps : List (Int × Int)) (N : Nat) (key : Int) : Nat := match atN way ps key with
  | some _ => N
  | none => putS ps.length N
def takeP (way : Int) (ps : List (Int × Int)) (key : Int) : List (Int × Int) := match atN way ps key with
  | some i => ps.eraseIdx i
  | none => ps

/-- The program's table at bt: its pairs, its size, at most n keys that came; its blocks are its own. -/
def TS (W : World) (fp : Nat × Nat × Int) (bt : Nat) (ps : List (Int × Int)) (N n : Nat) (o : Nat → Nat) : Prop :=
  ∃ cv pb len reach came places, Tab W bt fp cv pb N len reach came places ∧ (live came).map kv = ps ∧ came.length ≤ n ∧ N ≤ 8 * (n + 1) ∧ ∀ k, foot bt pb cv k → o k = bt + 1
/-- The document's table at br. -/
def RS (W : World) (br : Nat) (way : Int) (ps : List (Int × Int)) (N : Nat) (o : Nat → Nat) : Prop :=
  ∃ a b c, RTab W br way a b c ps N ∧ ∀ k, rfoot br a ps.length c k → o k = br + 1
/-- What is new from W on is L's. -/
def lab (W : World) (o : Nat → Nat) (L k : Nat) : Nat := if k < W.heap.size then o k else L
theorem lab_old {W : World} {o : Nat → Nat} {L k : Nat} (h : k < W.heap.size) : lab W o L k = o k := if_pos h
theorem lab_new {W : World} {o : Nat → Nat} {L k : Nat} (h : W.heap.size ≤ k) : lab W o L k = L := if_neg (by omega)

/-- The blocks of the program's table, as its box names them; and of the document's. -/
def TF (bt : Nat) (W : World) (k : Nat) : Prop := k = bt ∨ Mu bt W k
def RF (br : Nat) (W : World) (k : Nat) : Prop := k = br ∨ ∃ v : Value, W.cell? ⟨br, 1, none⟩ = some v ∧ v.ownBlock = some k

section
variable {W W' : World} {fp : Nat × Nat × Int} {bt br N n : Nat} {way : Int} {ps : List (Int × Int)} {o o' : Nat → Nat}
theorem tf_iff {pb len reach : Nat} {cv : Value} {came : List E} {places : List Nat} (h : Tab W bt fp cv pb N len reach came places) (k : Nat) : TF bt W k ↔ foot bt pb cv k := by
  unfold TF foot
  rw [mu_iff h]
  constructor
  · rintro (h1 | h1 | h1)
    · exact .inl h1
    · exact .inr (.inr h1)
    · exact .inr (.inl h1)
  · rintro (h1 | h1 | h1)
    · exact .inl h1
    · exact .inr (.inr h1)
    · exact .inr (.inl h1)
theorem rf_iff {a : Option Addr} {b c : Nat} (h : RTab W br way a b c ps N) (k : Nat) : RF br W k ↔ rfoot br a ps.length c k := by
  unfold RF rfoot
  rw [h.cells.2.1]
  constructor
  · rintro (h1 | ⟨v, h1, h2⟩)
    · exact .inl h1
    · cases h1
      exact .inr h2
  · rintro (h1 | h1)
    · exact .inl h1
    · exact .inr ⟨_, rfl, h1⟩
theorem TF.turn {S : Nat → Prop} (ht : Turn S W W') (hb : bt < W.heap.size) (hn : ¬ S bt) (k : Nat) : TF bt W' k ↔ TF bt W k := by
  have e : ∀ j, W'.cell? ⟨bt, j, none⟩ = W.cell? ⟨bt, j, none⟩ := fun j => World.cell?_of_block (a := ⟨bt, j, none⟩) (ht.block bt hb hn)
  unfold TF Mu
  rw [e, e]
theorem RF.turn {S : Nat → Prop} (ht : Turn S W W') (hb : br < W.heap.size) (hn : ¬ S br) (k : Nat) : RF br W' k ↔ RF br W k := by
  have e : ∀ j, W'.cell? ⟨br, j, none⟩ = W.cell? ⟨br, j, none⟩ := fun j => World.cell?_of_block (a := ⟨br, j, none⟩) (ht.block br hb hn)
  unfold RF
  rw [e]
theorem TS.own (h : TS W fp bt ps N n o) (k : Nat) (hk : TF bt W k) : o k = bt + 1 ∧ k < W.heap.size ∧ ∃ cs t f, W.heap[k]? = some (.cells cs t f) := by
  obtain ⟨cv, pb, len, reach, came, places, hT, h1, h2, h3, h4⟩ := h
  have hf := (tf_iff hT k).1 hk
  exact ⟨h4 k hf, hT.lt k (.inl hf), hT.isCells k (.inl hf)⟩
theorem RS.own (h : RS W br way ps N o) (k : Nat) (hk : RF br W k) : o k = br + 1 ∧ k < W.heap.size ∧ ∃ cs t f, W.heap[k]? = some (.cells cs t f) := by
  obtain ⟨a, b, c, hR, h1⟩ := h
  have hf := (rf_iff hR k).1 hk
  refine ⟨h1 k hf, hR.lt k hf, ?_⟩
  rcases hf with rfl | hf
  · exact ⟨_, _, _, hR.box⟩
  · rcases hR.own.2 with ⟨h0, _⟩ | ⟨g, cap, cur, h0, _, hh, _⟩
    · rw [h0] at hf; simp [Value.ownBlock] at hf
    · rw [h0] at hf; simp [Value.ownBlock] at hf; subst hf; exact ⟨_, _, _, hh⟩
theorem TS.frame (h : TS W fp bt ps N n o) {S : Nat → Prop} (ht : Turn S W W') (hn : ∀ k, k < W.heap.size → o k = bt + 1 → ¬ S k) (hf : ∀ k, fnfoot fp k → ¬ S k) (ho : ∀ k, k < W.heap.size → o' k = o k) : TS W' fp bt ps N n o' := by
  obtain ⟨cv, pb, len, reach, came, places, hT, h1, h2, h3, h4⟩ := h
  exact ⟨cv, pb, len, reach, came, places, hT.turn ht (fun k hk => hn k (hT.lt k (.inl hk)) (h4 k hk)) hf, h1, h2, h3, fun k hk => (ho k (hT.lt k (.inl hk))).trans (h4 k hk)⟩
theorem TS.stay (h : TS W fp bt ps N n o) (hs : Stay W W') : TS W' fp bt ps N n o := h.frame (S := fun _ => False) (Turn.of_stay hs) (fun _ _ _ e => e) (fun _ _ e => e) (fun _ _ => rfl)
theorem TS.more (h : TS W fp bt ps N n o) {m : Nat} (hm : n ≤ m) : TS W fp bt ps N m o := by
  obtain ⟨cv, pb, len, reach, came, places, hT, h1, h2, h3, h4⟩ := h
  exact ⟨cv, pb, len, reach, came, places, hT, h1, by omega, by omega, h4⟩
theorem TS.facts (h : TS W fp bt ps N n o) : ps.length ≤ n ∧ ps.length < N ∧ 8 ≤ N ∧ N ≤ 8 * (n + 1) ∧ bt < W.heap.size ∧ o bt = bt + 1 ∧ Fns W fp := by
  obtain ⟨cv, pb, len, reach, came, places, hT, h1, h2, h3, h4⟩ := h
  have hl := live_length_le came
  have hc := hT.cnt
  have hf := hT.few
  have he := hT.eight
  refine ⟨?_, ?_, he, h3, hT.box.lt, h4 bt (.inl rfl), hT.fns⟩
  · rw [← h1, List.length_map]; omega
  · rw [← h1, List.length_map]; omega
theorem TS.keys (h : TS W fp bt ps N n o) : ∀ p ∈ ps, KeyOk p.1 := by
  obtain ⟨cv, pb, len, reach, came, places, hT, h1, h2, h3, h4⟩ := h
  intro p hp
  rw [← h1] at hp
  obtain ⟨e, he, rfl⟩ := List.mem_map.1 hp
  obtain ⟨t, h5, h6⟩ := mem_live he
  exact (hT.keys t e h5 h6).2
theorem RS.frame (h : RS W br way ps N o) {S : Nat → Prop} (ht : Turn S W W') (hn : ∀ k, k < W.heap.size → o k = br + 1 → ¬ S k) (ho : ∀ k, k < W.heap.size → o' k = o k) : RS W' br way ps N o' := by
  obtain ⟨a, b, c, hR, h1⟩ := h
  exact ⟨a, b, c, hR.turn ht (fun k hk => hn k (hR.lt k hk) (h1 k hk)), fun k hk => (ho k (hR.lt k hk)).trans (h1 k hk)⟩
theorem RS.stay (h : RS W br way ps N o) (hs : Stay W W') : RS W' br way ps N o := h.frame (S := fun _ => False) (Turn.of_stay hs) (fun _ _ _ e => e) (fun _ _ => rfl)
theorem RS.facts (h : RS W br way ps N o) : br < W.heap.size ∧ o br = br + 1 ∧ KeyOk way := by
  obtain ⟨a, b, c, hR, h1⟩ := h
  exact ⟨hR.lt br (.inl rfl), h1 br (.inl rfl), hR.wayOk⟩

theorem t_len (h : TS W fp bt ps N n o) : Calls Try.prog 15 #[.pointer (some ⟨bt, 0, none⟩)] W fun e w' => e = .returned (.int .i64 (ps.length : Int)) ∧ w' = W := by
  obtain ⟨cv, pb, len, reach, came, places, hT, h1, h2, h3, h4⟩ := h
  have := len_yes hT
  rw [hT.cnt] at this
  rw [← h1, List.length_map]
  exact this
theorem t_size (h : TS W fp bt ps N n o) : Calls Try.prog 16 #[.pointer (some ⟨bt, 0, none⟩)] W fun e w' => e = .returned (.int .i64 (N : Int)) ∧ w' = W := by
  obtain ⟨cv, pb, len, reach, came, places, hT, h1, h2, h3, h4⟩ := h
  exact size_yes hT
theorem t_get (h : TS W fp bt ps N n o) (hw : fp.2.2 = way) (key : Int) (hk : KeyOk key) : Calls Try.prog 25 #[.pointer (some ⟨bt, 0, none⟩), .int .i64 key] W fun e w' => e = .returned (.tuple #[.int .i64 (getV ps (atN way ps key)), .bool (atN way ps key).isSome]) ∧ Stay W w' := by
  obtain ⟨cv, pb, len, reach, came, places, hT, h1, h2, h3, h4⟩ := h
  subst hw
  cases ho : atN fp.2.2 ps key with
  | none =>
    refine (get_no hT key hk (fun t e he hth => pick_none h1 ho t e he hth)).mono ?_
    rintro e w' ⟨rfl, k, rfl⟩
    exact ⟨rfl, Stay.drewN _ _⟩
  | some i =>
    obtain ⟨t, x, q1, q2, q3, q4, q5, q6⟩ := pick_some h1 ho
    refine (get_yes hT key hk q1 q2 q3).mono ?_
    rintro e w' ⟨rfl, k, rfl⟩
    refine ⟨?_, Stay.drewN _ _⟩
    rw [getV, q6]
    rfl
theorem kv_set (came : List E) {t : Nat} {e : E} {val : Int} (he : came[t]? = some e) (hth : e.there = true) {ps : List (Int × Int)} (hps : (live came).map kv = ps) {i : Nat} (hr : rank came t = i) (hp : ps[i]? = some (e.key, e.val)) :
    (live (came.set t { e with val := val })).map kv = ps.set i ((ps[i]?.getD (0, 0)).1, val) := by
  rw [live_set he hth (by exact hth), List.map_set, hps, hr, hp]
  rfl
theorem t_put (h : TS W fp bt ps N n o) (hw : fp.2.2 = way) (key val : Int) (hk : KeyOk key) (hn : n + 1 ≤ 68719476736) : Calls Try.prog 18 #[.pointer (some ⟨bt, 0, none⟩), .int .i64 key, .int .i64 val] W fun e w' =>
    e = .returned (.tuple #[.int .i64 (getV ps (atN way ps key)), .bool (atN way ps key).isSome, .int .i64 0]) ∧ TS w' fp bt (putP way ps key val) (putN way ps N key) (n + 1) (lab W o (bt + 1)) ∧ Turn (TF bt W) W w' ∧ (∀ k, TF bt w' k → TF bt W k ∨ W.heap.size ≤ k) := by
  have hfa := h.facts
  obtain ⟨cv, pb, len, reach, came, places, hT, h1, h2, h3, h4⟩ := h
  subst hw
  cases ho : atN fp.2.2 ps key with
  | none =>
    refine (put_new hT key hk val (fun t e he hth => pick_none h1 ho t e he hth) (by omega)).mono ?_
    rintro e w' ⟨rfl, cv', pb', reach', came', places', hT9, hS, hTu, hf⟩
    have hlen : len = ps.length := by rw [hT.cnt, ← h1, List.length_map]
    refine ⟨rfl, ⟨cv', pb', len + 1, reach', came', places', ?_, ?_, ?_, ?_, fun k hk => ?_⟩, hTu.mono (fun k _ hk => (tf_iff hT k).2 hk), fun k hk => (hf k ((tf_iff hT9 k).1 hk)).imp (tf_iff hT k).2 id⟩
    · simp only [putN, ho, putS, ← hlen]
      exact hT9
    · simp only [putP, ho]
      have := kv_sim hS.lives
      rw [this, live_append, List.map_append, h1]
      rfl
    · have := hS.len
      rw [List.length_append] at this
      simp at this
      omega
    · simp only [putN, ho, putS]
      split <;> omega
    · rcases hf k hk with g | g
      · rw [lab_old (hT.lt k (.inl g))]
        exact h4 k g
      · exact lab_new g
  | some i =>
    obtain ⟨t, x, q1, q2, q3, q4, q5, q6⟩ := pick_some h1 ho
    refine (put_yes hT key hk val q1 q2 q3).mono ?_
    rintro e w' ⟨rfl, hT9, hTu⟩
    refine ⟨?_, ⟨cv, pb, len, reach, came.set t { x with val := val }, places, ?_, ?_, ?_, ?_, fun k hk => ?_⟩, hTu.mono (fun k _ hk => (tf_iff hT k).2 hk), fun k hk => .inl ((tf_iff hT k).2 ((tf_iff hT9 k).1 hk))⟩
    · rw [getV, q6]
      rfl
    · simp only [putN, ho]
      exact hT9
    · simp only [putP, ho]
      exact kv_set came q1 q2 h1 q5 q6
    · rw [List.length_set]
      omega
    · simp only [putN, ho]
      omega
    · rw [lab_old (hT.lt k (.inl hk))]
      exact h4 k hk
theorem t_take (h : TS W fp bt ps N n o) (hw : fp.2.2 = way) (key : Int) (hk : KeyOk key) : Calls Try.prog 27 #[.pointer (some ⟨bt, 0, none⟩), .int .i64 key] W fun e w' =>
    e = .returned (.tuple #[.int .i64 (getV ps (atN way ps key)), .bool (atN way ps key).isSome]) ∧ TS w' fp bt (takeP way ps key) N n o ∧ Turn (TF bt W) W w' ∧ (∀ k, TF bt w' k → TF bt W k ∨ W.heap.size ≤ k) := by
  obtain ⟨cv, pb, len, reach, came, places, hT, h1, h2, h3, h4⟩ := h
  subst hw
  cases ho : atN fp.2.2 ps key with
  | none =>
    refine (take_no hT key hk (fun t e he hth => pick_none h1 ho t e he hth)).mono ?_
    rintro e w' ⟨rfl, k, rfl⟩
    refine ⟨rfl, ?_, Turn.of_stay (Stay.drewN _ _), fun k hk => .inl hk⟩
    simp only [takeP, ho]
    exact TS.stay ⟨cv, pb, len, reach, came, places, hT, h1, h2, h3, h4⟩ (Stay.drewN _ _)
  | some i =>
    obtain ⟨t, x, q1, q2, q3, q4, q5, q6⟩ := pick_some h1 ho
    refine (take_yes hT key hk q1 q2 q3).mono ?_
    rintro e w' ⟨rfl, cv', came', places', hT9, hS, hl, hown, hTu⟩
    have hfo : ∀ k, foot bt pb cv' k → foot bt pb cv k := fun k hk => by
      rcases hk with g | g | g
      · exact .inl g
      · exact .inr (.inl g)
      · exact .inr (.inr (by rw [← hown]; exact g))
    refine ⟨?_, ⟨cv', pb, len - 1, reach, came', places', hT9, ?_, by omega, h3, fun k hk => h4 k (hfo k hk)⟩, hTu.mono (fun k _ hk => (tf_iff hT k).2 hk), fun k hk => .inl ((tf_iff hT k).2 (hfo k ((tf_iff hT9 k).1 hk)))⟩
    · rw [getV, q6]
      rfl
    · simp only [takeP, ho]
      rw [kv_sim hS, live_gap q1 q2, map_erase, h1, q5]

theorem r_get (h : RS W br way ps N o) (key : Int) (hk : KeyOk key) (hn : ps.length ≤ 1099511627776) : Calls Try.prog 26 #[.pointer (some ⟨br, 0, none⟩), .int .i64 key] W fun e w' => e = .returned (.tuple #[.int .i64 (getV ps (atN way ps key)), .bool (atN way ps key).isSome]) ∧ Stay W w' := by
  obtain ⟨a, b, c, hR, h1⟩ := h
  exact rGet_any hR key hk hn
theorem r_put (h : RS W br way ps N o) (key val : Int) (hk : KeyOk key) (hv : KeyOk val) (hn : ps.length ≤ 1099511627776) (hs : N ≤ 4398046511104) : Calls Try.prog 19 #[.pointer (some ⟨br, 0, none⟩), .int .i64 key, .int .i64 val] W fun e w' =>
    e = .returned (.tuple #[.int .i64 (getV ps (atN way ps key)), .bool (atN way ps key).isSome]) ∧ RS w' br way (putP way ps key val) (putN way ps N key) (lab W o (br + 1)) ∧ Turn (RF br W) W w' ∧ (∀ k, RF br w' k → RF br W k ∨ W.heap.size ≤ k) := by
  obtain ⟨a, b, c, hR, h1⟩ := h
  cases ho : atN way ps key with
  | none =>
    refine (rPut_no hR key val hk hv hn hs ho).mono ?_
    rintro e w' ⟨rfl, a', b', c', hR9, hTu, hf⟩
    have hfo : ∀ k, rfoot br a' (ps ++ [(key, val)]).length c' k → rfoot br a ps.length c k ∨ W.heap.size ≤ k := fun k hk => by
      rw [List.length_append, List.length_singleton] at hk
      rcases hk with g | g
      · exact .inl (.inl g)
      · rcases hf with f | f
        · rw [f] at g
          exact .inl (.inr g)
        · exact .inr (f k g)
    refine ⟨rfl, ⟨a', b', c', ?_, fun k hk => ?_⟩, hTu.mono (fun k _ hk => (rf_iff hR k).2 hk), fun k hk => (hfo k ((rf_iff hR9 k).1 hk)).imp (rf_iff hR k).2 id⟩
    · simp only [putP, putN, ho]
      exact hR9
    · simp only [putP, ho] at hk
      rcases hfo k hk with g | g
      · rw [lab_old (hR.lt k g)]
        exact h1 k g
      · exact lab_new g
  | some i =>
    refine (rPut_yes hR key val hk hv hn ho).mono ?_
    rintro e w' ⟨rfl, hR9, hTu⟩
    have hR8 : RTab w' br way a b c (ps.set i ((ps[i]?.getD (0, 0)).1, val)) N := hR9
    have hl : (ps.set i ((ps[i]?.getD (0, 0)).1, val)).length = ps.length := List.length_set
    refine ⟨rfl, ⟨a, b, c, ?_, fun k hk => ?_⟩, hTu.mono (fun k _ hk => (rf_iff hR k).2 hk), fun k hk => .inl ((rf_iff hR k).2 (by have := (rf_iff hR8 k).1 hk; rwa [hl] at this))⟩
    · simp only [putP, putN, ho]
      exact hR9
    · simp only [putP, ho, List.length_set] at hk
      rw [lab_old (hR.lt k hk)]
      exact h1 k hk
theorem r_take (h : RS W br way ps N o) (key : Int) (hk : KeyOk key) (hn : ps.length ≤ 1099511627776) : Calls Try.prog 28 #[.pointer (some ⟨br, 0, none⟩), .int .i64 key] W fun e w' =>
    e = .returned (.tuple #[.int .i64 (getV ps (atN way ps key)), .bool (atN way ps key).isSome]) ∧ RS w' br way (takeP way ps key) N (lab W o (br + 1)) ∧ Turn (RF br W) W w' ∧ (∀ k, RF br w' k → RF br W k ∨ W.heap.size ≤ k) := by
  obtain ⟨a, b, c, hR, h1⟩ := h
  cases ho : atN way ps key with
  | none =>
    refine (rTake_no hR key hk hn ho).mono ?_
    rintro e w' ⟨rfl, hs⟩
    refine ⟨rfl, ?_, Turn.of_stay hs, fun k hk => .inl ((RF.turn (S := fun _ => False) (Turn.of_stay hs) (hR.lt br (.inl rfl)) (fun e => e) k).1 hk)⟩
    simp only [takeP, ho]
    exact RS.frame ⟨a, b, c, hR, h1⟩ (S := fun _ => False) (Turn.of_stay hs) (fun _ _ _ e => e) (fun k hk => lab_old hk)
  | some i =>
    refine (rTake_yes hR key hk hn ho).mono ?_
    rintro e w' ⟨rfl, a', b', c', hR9, hTu, hf⟩
    have hfo : ∀ k, rfoot br a' (ps.eraseIdx i).length c' k → rfoot br a ps.length c k ∨ W.heap.size ≤ k := fun k hk => by
      rcases hk with g | g
      · exact .inl (.inl g)
      · exact .inr (hf k g)
    refine ⟨rfl, ⟨a', b', c', ?_, fun k hk => ?_⟩, hTu.mono (fun k _ hk => (rf_iff hR k).2 hk), fun k hk => (hfo k ((rf_iff hR9 k).1 hk)).imp (rf_iff hR k).2 id⟩
    · simp only [takeP, ho]
      exact hR9
    · simp only [takeP, ho] at hk
      rcases hfo k hk with g | g
      · rw [lab_old (hR.lt k g)]
        exact h1 k g
      · exact lab_new g
theorem r_cells (h : RS W br way ps N o) : ∃ a c, W.cell? ⟨br, 1, none⟩ = some (.slice a ps.length c) ∧ W.cell? ⟨br, 2, none⟩ = some (.int .i64 (N : Int)) := by
  obtain ⟨a, b, c, hR, h1⟩ := h
  exact ⟨a, c, hR.cells.2.1, hR.cells.2.2⟩
end
end Go.Proofs.Ytdnophgcdnghkaa.I
