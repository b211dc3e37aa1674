/- RelationCuts, plainly: unlike keys, how many tuples each has; a stretch cut in two. At, Distinct; New of a bad arity. lent (a list with two marks behind it); the document's Cut. -/
import Derived.Test.YtnhmjheipfopoaaL5m
namespace Go.Proofs.Ytnhmjheipfopoaa.L
open Go.RowKit Go.Maps Go.Proofs.Ytnhmjheipfopoaa

/-- A nodup list that lies in another is no longer. -/
theorem len_sub {α : Type} [DecidableEq α] : ∀ {A B : List α}, A.Nodup → (∀ x ∈ A, x ∈ B) → A.length ≤ B.length
  | [], B, _, _ => by simp
  | a :: A, B, hn, h => by
    obtain ⟨h1, h2⟩ := List.nodup_cons.1 hn
    have hb := h a (List.mem_cons_self ..)
    have h3 := len_sub (A := A) (B := B.erase a) h2 (fun x hx => (List.mem_erase_of_ne (fun e => h1 (by rw [← e]; exact hx))).2 (h x (List.mem_cons_of_mem _ hx)))
    rw [List.length_erase_of_mem hb] at h3
    have := List.length_pos_of_mem hb
    simp only [List.length_cons]
    omega

/-- The unlike keys of the tuples, as they come. -/
def keyl (c : Nat) : List (List Int) → List (List Int) := fun T => T.foldl (fun K t => if cutL t c ∈ K then K else K ++ [cutL t c]) []
theorem keyl_snoc (c : Nat) (T : List (List Int)) (t : List Int) : keyl c (T ++ [t]) = if cutL t c ∈ keyl c T then keyl c T else keyl c T ++ [cutL t c] := by
  unfold keyl
  rw [List.foldl_append]
  rfl
theorem snoc_ind {α : Type} {p : List α → Prop} (h0 : p []) (h1 : ∀ l x, p l → p (l ++ [x])) (l : List α) : p l := by
  have : ∀ n (l : List α), l.length = n → p l := by
    intro n
    induction n with
    | zero => intro l hl; rw [List.length_eq_zero_iff.1 hl]; exact h0
    | succ n ih =>
      intro l hl
      have hne : l ≠ [] := by intro e; rw [e] at hl; simp at hl
      rw [← List.dropLast_concat_getLast hne]
      exact h1 _ _ (ih _ (by simp [hl]))
  exact this _ l rfl
theorem keyl_mem (c : Nat) (T : List (List Int)) (l : List Int) : l ∈ keyl c T ↔ ∃ t ∈ T, cutL t c = l := by
  refine snoc_ind (p := fun T => l ∈ keyl c T ↔ ∃ t ∈ T, cutL t c = l) (by simp [keyl]) (fun T t ih => ?_) T
  rw [keyl_snoc]
  by_cases h : cutL t c ∈ keyl c T
  · rw [if_pos h, ih]
    constructor
    · rintro ⟨s, h1, h2⟩; exact ⟨s, by simp [h1], h2⟩
    · rintro ⟨s, h1, h2⟩
      rcases List.mem_append.1 h1 with h1 | h1
      · exact ⟨s, h1, h2⟩
      · rw [List.mem_singleton.1 h1] at h2
        rw [h2] at h
        exact ih.1 h
  · rw [if_neg h, List.mem_append, List.mem_singleton, ih]
    constructor
    · rintro (⟨s, h1, h2⟩ | rfl)
      · exact ⟨s, by simp [h1], h2⟩
      · exact ⟨t, by simp, rfl⟩
    · rintro ⟨s, h1, h2⟩
      rcases List.mem_append.1 h1 with h1 | h1
      · exact .inl ⟨s, h1, h2⟩
      · rw [List.mem_singleton.1 h1] at h2; exact .inr h2.symm
theorem keyl_nodup (c : Nat) (T : List (List Int)) : (keyl c T).Nodup := by
  refine snoc_ind (p := fun T => (keyl c T).Nodup) (by simp [keyl]) (fun T t ih => ?_) T
  rw [keyl_snoc]
  split
  · exact ih
  · rename_i h
    refine List.nodup_append.2 ⟨ih, List.nodup_cons.2 ⟨by simp, List.nodup_nil⟩, fun a ha b hb hab => ?_⟩
    rw [List.mem_singleton] at hb
    exact h (by rw [← hb, ← hab]; exact ha)
theorem keyl_len (c : Nat) (T : List (List Int)) : (keyl c T).length ≤ T.length := by
  refine snoc_ind (p := fun T => (keyl c T).length ≤ T.length) (by simp [keyl]) (fun T t ih => ?_) T
  rw [keyl_snoc]
  split
  · simp; omega
  · simp; omega

theorem plc_of {c : Nat} {T : List (List Int)} {l : List Int} {p : Nat} (hp : p < T.length) (h : cutL (T.getD p []) c = l) : p ∈ plc c T l := by
  unfold plc
  rw [List.mem_filter, List.mem_range]
  exact ⟨hp, by simpa using h⟩
theorem plc_some {c : Nat} {T : List (List Int)} {l : List Int} : plc c T l ≠ [] ↔ l ∈ keyl c T := by
  rw [keyl_mem]
  constructor
  · intro h
    obtain ⟨p, hp⟩ := List.exists_mem_of_ne_nil _ h
    obtain ⟨h1, h2⟩ := plc_mem hp
    refine ⟨T[p], List.getElem_mem h1, ?_⟩
    simpa [h1] using h2
  · rintro ⟨t, ht, h⟩ e
    obtain ⟨p, hp, rfl⟩ := List.mem_iff_getElem.1 ht
    have := plc_of hp (l := l) (c := c) (by simpa [hp] using h)
    rw [e] at this
    cases this

/-- A lookup's table has the unlike keys. -/
theorem Cont.keys {c : Nat} {T : List (List Int)} {came : List E} {ls : List (List Nat)} (h : Cont c T came ls) : came.length = (keyl c T).length := by
  have hm : ∀ l, l ∈ came.map (fun e => e.key.l) ↔ l ∈ keyl c T := by
    intro l
    rw [← plc_some]
    constructor
    · intro hl
      obtain ⟨e, he, rfl⟩ := List.mem_map.1 hl
      obtain ⟨i, hi⟩ := List.getElem?_of_mem he
      exact (h.val i e hi).ne
    · intro hl
      obtain ⟨i, e, h1, h2⟩ := h.all l hl
      exact List.mem_map.2 ⟨e, List.mem_of_getElem? h1, h2⟩
  have hn : (came.map (fun e => e.key.l)).Nodup := by
    rw [List.nodup_iff_pairwise_ne, List.pairwise_iff_getElem]
    intro i j hi hj hij e
    simp only [List.getElem_map] at e
    have := h.uniq i _ j _ (List.getElem?_eq_getElem (by simpa using hi)) (List.getElem?_eq_getElem (by simpa using hj)) e
    omega
  have h1 := len_sub hn (fun x hx => (hm x).1 hx)
  have h2 := len_sub (keyl_nodup c T) (fun x hx => (hm x).2 hx)
  simp at h1 h2
  omega

/-- How many tuples some keys have together. -/
def tot (c : Nat) (T : List (List Int)) (K : List (List Int)) : Nat := (K.map fun l => (plc c T l).length).sum
theorem tot_snoc (c : Nat) (T K : List (List Int)) (l : List Int) : tot c T (K ++ [l]) = tot c T K + (plc c T l).length := by simp [tot]
theorem tot_grow (c : Nat) (T : List (List Int)) (t : List Int) : ∀ K : List (List Int), K.Nodup → tot c (T ++ [t]) K = tot c T K + if cutL t c ∈ K then 1 else 0
  | [], _ => by simp [tot]
  | l :: K, hn => by
    obtain ⟨h1, h2⟩ := List.nodup_cons.1 hn
    have ih := tot_grow c T t K h2
    unfold tot at ih ⊢
    rw [List.map_cons, List.sum_cons, List.map_cons, List.sum_cons, ih, plc_snoc, List.length_append]
    by_cases e : cutL t c = l
    · have h3 : ¬ cutL t c ∈ K := by rw [e]; exact h1
      rw [if_pos e, if_neg h3, if_pos (by rw [e]; exact List.mem_cons_self ..)]
      simp
      omega
    · rw [if_neg e]
      by_cases h3 : cutL t c ∈ K
      · rw [if_pos h3, if_pos (List.mem_cons_of_mem _ h3)]; simp; omega
      · rw [if_neg h3, if_neg (fun h => by rcases List.mem_cons.1 h with h | h; exact e h; exact h3 h)]; simp
/-- All keys together have all tuples. -/
theorem tot_all (c : Nat) (T : List (List Int)) : tot c T (keyl c T) = T.length := by
  refine snoc_ind (p := fun T => tot c T (keyl c T) = T.length) (by simp [keyl, tot]) (fun T t ih => ?_) T
  rw [keyl_snoc]
  by_cases h : cutL t c ∈ keyl c T
  · rw [if_pos h, tot_grow c T t _ (keyl_nodup c T), if_pos h, ih]; simp
  · rw [if_neg h, tot_snoc, tot_grow c T t _ (keyl_nodup c T), if_neg h, ih, plc_snoc, if_pos rfl]
    have : plc c T (cutL t c) = [] := by
      apply Classical.byContradiction
      intro hne
      exact h (plc_some.1 hne)
    rw [this]; simp
theorem tot_le (c : Nat) (T : List (List Int)) : ∀ K : List (List Int), tot c T K ≤ K.length * T.length
  | [] => by simp [tot]
  | l :: K => by
    have ih := tot_le c T K
    have := plc_len c T l
    unfold tot at ih ⊢
    rw [List.map_cons, List.sum_cons, List.length_cons, Nat.add_mul]
    omega

/-- A shorter key is no rarer. -/
theorem keyl_few {c c' : Nat} (h : ∀ s t : List Int, cutL s c = cutL t c → cutL s c' = cutL t c') (T : List (List Int)) : (keyl c' T).length ≤ (keyl c T).length := by
  refine snoc_ind (p := fun T => (keyl c' T).length ≤ (keyl c T).length) (by simp [keyl]) (fun T t ih => ?_) T
  rw [keyl_snoc, keyl_snoc]
  by_cases h1 : cutL t c ∈ keyl c T
  · have h2 : cutL t c' ∈ keyl c' T := by
      rw [keyl_mem] at h1 ⊢
      obtain ⟨s, hs, he⟩ := h1
      exact ⟨s, hs, h s t he⟩
    rw [if_pos h1, if_pos h2]; exact ih
  · rw [if_neg h1]
    split
    · simp; omega
    · simp; omega
theorem keyl_pos {c : Nat} {T : List (List Int)} (h : 0 < T.length) : 0 < (keyl c T).length := by
  have : cutL T[0] c ∈ keyl c T := (keyl_mem c T _).2 ⟨_, List.getElem_mem h, rfl⟩
  exact List.length_pos_of_mem this

/-- A stretch cut in two. -/
theorem mid_two (cut : Int) (n : Nat) : ∀ (ps : List Nat), (∀ p ∈ ps, p < n) → (mid ps 0 n).length = (mid ps 0 cut).length + (mid ps (max 0 cut) n).length ∧ (mid ps 0 n).length = ps.length
  | [], _ => by simp [mid]
  | p :: ps, h => by
    obtain ⟨h1, h2⟩ := mid_two cut n ps (fun q hq => h q (List.mem_cons_of_mem _ hq))
    have hp := h p (List.mem_cons_self ..)
    unfold mid at h1 h2 ⊢
    have e1 : between 0 (n : Int) p = true := by unfold between; simp; omega
    rw [List.filter_cons, if_pos e1, List.filter_cons, List.filter_cons]
    by_cases hc : (p : Int) < cut
    · have e2 : between 0 cut p = true := by unfold between; simp; omega
      have e3 : ¬ between (max 0 cut) (n : Int) p = true := by unfold between; simp; omega
      rw [if_pos e2, if_neg e3]; simp only [List.length_cons]; omega
    · have e2 : ¬ between 0 cut p = true := by unfold between; simp; omega
      have e3 : between (max 0 cut) (n : Int) p = true := by unfold between; simp; omega
      rw [if_neg e2, if_pos e3]; simp only [List.length_cons]; omega
theorem mid_ahead {c : Nat} {T : List (List Int)} {l : List Int} {i : Nat} (hi : i ≤ T.length) : (mid (plc c T l) 0 i).length = 0 ↔ l ∉ keyl c (T.take i) := by
  rw [← plc_some, List.length_eq_zero_iff]
  unfold mid
  rw [List.filter_eq_nil_iff]
  constructor
  · intro h hne
    obtain ⟨p, hp⟩ := List.exists_mem_of_ne_nil _ hne
    obtain ⟨h1, h2⟩ := plc_mem hp
    rw [List.length_take] at h1
    have h3 : p ∈ plc c T l := plc_of (by omega) (by
      rw [← h2, List.getD_eq_getElem?_getD, List.getD_eq_getElem?_getD, List.getElem?_take_of_lt (by omega)])
    exact h p h3 (by unfold between; simp; omega)
  · intro h p hp hb
    obtain ⟨h1, h2⟩ := plc_mem hp
    unfold between at hb
    simp at hb
    refine h (fun e => ?_)
    have h3 : p ∈ plc c (T.take i) l := plc_of (by rw [List.length_take]; omega) (by
      rw [← h2, List.getD_eq_getElem?_getD, List.getD_eq_getElem?_getD, List.getElem?_take_of_lt (by omega)])
    rw [e] at h3
    cases h3
theorem mid_range (x y : Int) : ∀ n : Nat, ((mid (List.range n) x y).length : Int) = bE x y n - bF x
  | 0 => by simp [mid, bE, bF]; omega
  | n + 1 => by
    have ih := mid_range x y n
    unfold mid at ih ⊢
    rw [List.range_succ, List.filter_append, List.length_append]
    by_cases h : x ≤ (n : Int) ∧ (n : Int) < y
    · have e : between x y n = true := by unfold between; simpa using h
      rw [List.filter_cons, if_pos e]
      unfold bE bF at ih ⊢
      simp only [List.filter_nil, List.length_singleton]
      omega
    · have e : ¬ between x y n = true := by unfold between; simpa using h
      rw [List.filter_cons, if_neg e]
      unfold bE bF at ih ⊢
      simp only [List.filter_nil, List.length_nil]
      omega

/-- Columns that rise are their set's columns. -/
theorem cols_bit {a x : Nat} (ha : a < 2 ^ x) (hx : x < 16) : cols (a ||| 2 ^ x) 16 = cols a 16 ++ [(x : Int)] ∧ a ||| 2 ^ x < 2 ^ (x + 1) := by
  have h1 : a ||| 2 ^ x < 2 ^ (x + 1) := Nat.or_lt_two_pow (Nat.lt_of_lt_of_le ha (Nat.pow_le_pow_right (by decide) (by omega))) (Nat.pow_lt_pow_right (by decide) (by omega))
  refine ⟨?_, h1⟩
  rw [cols_all h1 (by omega), cols_succ, if_pos (by simp [Nat.testBit_or]), cols_all ha (by omega)]
  congr 1
  unfold cols
  congr 1
  apply List.filter_congr
  intro k hk
  rw [List.mem_range] at hk
  rw [Nat.testBit_or, Nat.testBit_two_pow]
  simp
  omega
theorem rowL_cols {ar : Nat} (har : ar ≤ 16) : ∀ (C : List Int) (last : Int) (acc c : Nat), -1 ≤ last → acc < 2 ^ (last + 1).toNat → rowL ar C last acc = some c → cols c 16 = cols acc 16 ++ C
  | [], _, _, _, _, _, h => by simp only [rowL, Option.some.injEq] at h; rw [h]; simp
  | x :: xs, last, acc, c, hl, ha, h => by
    unfold rowL at h
    split at h
    · cases h
    · rename_i hx
      obtain ⟨m, rfl⟩ : ∃ m : Nat, x = m := ⟨x.toNat, by omega⟩
      have ha2 : acc < 2 ^ m := Nat.lt_of_lt_of_le ha (Nat.pow_le_pow_right (by decide) (by omega))
      obtain ⟨h1, h2⟩ := cols_bit ha2 (by omega)
      have := rowL_cols har xs m _ c (by omega) (by rw [show ((m : Int) + 1).toNat = m + 1 by omega]; exact h2) (by simpa using h)
      rw [this, h1]; simp
theorem row_cols {ar : Nat} (har : ar ≤ 16) {C : List Int} {c : Nat} (h : rowL ar C (-1) 0 = some c) : cols c 16 = C := by
  have := rowL_cols har C (-1) 0 c (by omega) (by decide) h
  rw [this]
  have : cols 0 16 = [] := by decide
  rw [this]; rfl
theorem rowL_ahead {ar : Nat} : ∀ (C D : List Int) (last : Int) (acc c : Nat), rowL ar (C ++ D) last acc = some c → ∃ c', rowL ar C last acc = some c'
  | [], _, _, acc, _, _ => ⟨acc, rfl⟩
  | x :: C, D, last, acc, c, h => by
    rw [List.cons_append] at h
    unfold rowL at h ⊢
    split at h
    · cases h
    · rename_i hx
      rw [if_neg hx]
      exact rowL_ahead C D x _ c h
theorem row_less {ar : Nat} {C : List Int} {c : Nat} (h : rowL ar C (-1) 0 = some c) : ∃ c', rowL ar C.dropLast (-1) 0 = some c' := by
  by_cases he : C = []
  · subst he; exact ⟨0, rfl⟩
  · rw [← List.dropLast_concat_getLast he] at h
    exact rowL_ahead _ _ _ _ _ h
theorem row_in {ar : Nat} (har : ar ≤ 16) {C : List Int} {c : Nat} (h : rowL ar C (-1) 0 = some c) : ∀ x ∈ C, 0 ≤ x ∧ x < (ar : Int) := by
  have hlt := rowL_lt C (-1) 0 (by omega) (Nat.two_pow_pos ar) c h
  intro x hx
  rw [← row_cols har h, cols_all hlt har] at hx
  exact cols_lt c ar x hx
theorem cut_less {ar : Nat} (har : ar ≤ 16) {C : List Int} {c c' : Nat} (h : rowL ar C (-1) 0 = some c) (h' : rowL ar C.dropLast (-1) 0 = some c') (s t : List Int) (he : cutL s c = cutL t c) : cutL s c' = cutL t c' := by
  unfold cutL at he ⊢
  rw [row_cols har h] at he
  rw [row_cols har h', List.map_dropLast, List.map_dropLast, he]
end Go.Proofs.Ytnhmjheipfopoaa.L
namespace Go.Proofs.Ytnhmjheipfopoaa.L
open Go.RowKit Go.Maps Go.Shelf Go.Proofs.Ytnhmjheipfopoaa

theorem own_lit0 (w : World) : OwnI w.heap.size (w.alloc (.cells #[] 3)) (.slice (some ⟨w.heap.size, 0, none⟩) 0 0) [] :=
  World.ownsRow_made w #[] 0 (Nat.le_refl _) (Nat.zero_le _) rfl
theorem eqlInts_some (ad : Addr) (n c : Nat) (w : World) : (binOp .eql 23 (.slice (some ad) n c) (.slice none 0 0)).run Try.prog w = .ok (.bool false) w := by kernel_rfl
theorem eqlInts_none (n c : Nat) (w : World) : (binOp .eql 23 (.slice none n c) (.slice none 0 0)).run Try.prog w = .ok (.bool true) w := by kernel_rfl

set_option maxRecDepth 100000 in
set_option maxHeartbeats 1000000 in
theorem clone_some (w : World) (ad : Addr) (cap : Nat) (xs : List Int) (X : List Value) (hX : X = xs.map (Value.int .i64)) (hx : ∀ j u, X[j]? = some u → w.cell? (ad.add j) = some u) (hb : xs.length ≤ 1099511627776) :
    Calls Try.prog 30 #[.slice (some ad) xs.length cap] w fun e w' => ∃ v, e = .returned v ∧ OwnI w.heap.size w' v xs ∧ Stay w w' := by
  obtain ⟨i0, hi, hz0, hz1, hz2⟩ := info_parts infoInt
  have HX : Hid ((∀ j u, X[j]? = some u → w.cell? (ad.add j) = some u) ∧ (∀ u ∈ X, u.oneCell' = true) ∧ X.length = xs.length ∧ X = xs.map (Value.int .i64)) := ⟨hx, by simp [hX, Value.oneCell'], by simp [hX], hX⟩
  have HO := own_lit0 w
  have he := eqlInts_some ad xs.length cap
  clear hx hX
  go_enter Try.func30, Try.ntmps30
  go_wp2_with (at_builtin; refine wpList_append_own _ rfl _ _ 23 rfl w.heap.size 3 i0 _ 1 8 Try.underlying23 hi hz0 hz1 hz2 rfl (by decide) (.slice (some ⟨w.heap.size, 0, none⟩) 0 0) 0 [] rfl HO ad xs.length cap X rfl (by rw [HX.out.2.2.1]; simp) (fun j u h => (Stay.new w _).cell (HX.out.1 j u h)) HX.out.2.1 (by unfold maxLen; omega) (by omega) (by rw [World.size_alloc]; omega) ?_; intro v1 w1 hown1 hg1 hn1; have HR : Hid (OwnI w.heap.size w1 v1 xs ∧ Stay w w1) := ⟨by unfold OwnI; rw [Nat.zero_add, List.nil_append, HX.out.2.2.2] at hown1; simpa using hown1, (Stay.new w _).grown hg1 (by rw [World.size_alloc]; omega) (fun k e => by simp [Value.ownBlock] at e; omega)⟩; clear hown1 hg1 hn1 HO)
  go_ret
  exact ⟨_, rfl, HR.out.1, HR.out.2⟩

set_option maxRecDepth 100000 in
theorem clone_none (w : World) (n cap : Nat) : Calls Try.prog 30 #[.slice none n cap] w fun e w' => ∃ v, e = .returned v ∧ OwnI w.heap.size w' v [] ∧ Stay w w' := by
  have he := eqlInts_none n cap
  go_enter Try.func30, Try.ntmps30
  go_wp2
  go_ret
  exact ⟨_, rfl, World.ownsRow_nil _ _ _ _, Stay.refl _⟩

/-- slices.Clone of ints. -/
theorem cloneInts_any (w : World) (a : Option Addr) (b off cap : Nat) (xs : List Int) (hS : IntsS w a b off xs) (hb : xs.length ≤ 1099511627776) :
    Calls Try.prog 30 #[.slice a xs.length cap] w fun e w' => ∃ v, e = .returned v ∧ OwnI w.heap.size w' v xs ∧ Stay w w' := by
  cases a with
  | none =>
    have hxs : xs = [] := by
      cases xs with
      | nil => rfl
      | cons x xs => have := hS.1 (by simp); cases this
    subst hxs
    exact clone_none w _ cap
  | some ad =>
    refine clone_some w ad cap xs _ rfl (fun j u hu => ?_) hb
    obtain ⟨ad', h1, h2⟩ := src_of hS (Nat.lt_of_le_of_lt (Nat.zero_le j) (List.getElem?_eq_some_iff.1 hu).1)
    obtain rfl := Option.some.inj h1
    exact h2 j u hu

section
variable {W W' : World} {F : Nat → Prop} {rb ar : Nat} {T : List (List Int)} {vv : Value} {mb : Nat} {L : List (Nat × Nat)} {Fs : Nat → Nat → Prop}

set_option maxRecDepth 100000 in
theorem tuple_any (h : Rl W F rb ar T vv mb L Fs) (hT : T.length ≤ 68719476736) {p : Nat} {t : List Int} (hp : T[p]? = some t) :
    Calls Try.prog 34 #[.pointer (some ⟨rb, 0, none⟩), .int .i64 p] W fun e w' => ∃ v, e = .returned v ∧ OwnI W.heap.size w' v t ∧ Stay W w' := by
  have hpc := piece_any h hT hp
  have htl : t.length ≤ 16 := by rw [h.rows t (List.mem_of_getElem? hp)]; exact h.arle
  clear h hp
  go_enter Try.func34, Try.ntmps34
  go_wp2_with (first
    | (go_at_call 51; refine hpc.mono ?_; rintro e w1 ⟨a, b, o, cap, rfl, hI, d, hw⟩; have hsz : w1.heap.size = W.heap.size := (by rw [hw]; rfl); have hcl := cloneInts_any w1 a b o cap t hI (by omega); have H1 : Hid (Stay W w1 ∧ w1.heap.size = W.heap.size) := ⟨by rw [hw]; exact Stay.drewN W d, hsz⟩; clear hw hI hpc hsz)
    | (go_at_call 30; refine hcl.mono ?_; rintro e w2 ⟨v, rfl, hO, hs⟩; have H2 : Hid (OwnI W.heap.size w2 v t ∧ Stay W w2) := ⟨hO.mono (by rw [H1.out.2]; omega), H1.out.1.trans hs⟩; clear hO hs hcl))
  go_ret
  exact ⟨_, rfl, H2.out.1, H2.out.2⟩

set_option maxRecDepth 100000 in
/-- At a place that is there. -/
theorem at_yes (h : Rl W F rb ar T vv mb L Fs) (hT : T.length ≤ 68719476736) {p : Nat} {t : List Int} (hp : T[p]? = some t) :
    Calls Try.prog 21 #[.pointer (some ⟨rb, 0, none⟩), .int .i64 p] W fun e w' => ∃ v, e = .returned (.tuple #[v, .bool true]) ∧ OwnI W.heap.size w' v t ∧ Stay W w' := by
  have hm := rmade_yes h.box
  have c1 := h.box.c1
  have ht := tuple_any h hT hp
  have hpl := (List.getElem?_eq_some_iff.1 hp).1
  have h1 : ¬ (p : Int) < 0 := by omega
  have h2 : ¬ (T.length : Int) ≤ (p : Int) := by omega
  clear h hp
  go_enter Try.func21, Try.ntmps21
  go_wp2_with (first
    | (go_at_call 40; refine hm.mono ?_; rintro e w9 ⟨rfl, hw⟩; have hw' := hw.symm; subst hw'; clear hm)
    | (go_at_call 34; refine ht.mono ?_; rintro e w2 ⟨v, rfl, hO, hs⟩; have H2 : Hid (OwnI W.heap.size w2 v t ∧ Stay W w2) := ⟨hO, hs⟩; clear hO hs ht))
  go_ret2
  exact ⟨_, rfl, H2.out.1, H2.out.2⟩

/-- What Distinct answers. -/
def distV (ar : Nat) (T : List (List Int)) (C : List Int) : Array Value := match rowL ar C (-1) 0 with
  | none => #[.int .i64 0, .int .i64 2]
  | some c => #[.int .i64 ((keyl c T).length : Int), .int .i64 0]

theorem keyl_zero (T : List (List Int)) : (keyl 0 T).length = min T.length 1 := by
  have h0 : ∀ t, cutL t 0 = [] := fun t => by
    have : cols 0 16 = [] := by decide
    unfold cutL; rw [this]; rfl
  have h1 : (keyl 0 T).length ≤ 1 := by
    have := len_sub (A := keyl 0 T) (B := [[]]) (keyl_nodup 0 T) (fun x hx => by
      obtain ⟨t, _, rfl⟩ := (keyl_mem 0 T x).1 hx
      rw [h0]; simp)
    simpa using this
  have h2 := keyl_len 0 T
  by_cases h3 : 0 < T.length
  · have := keyl_pos (c := 0) h3; omega
  · omega

theorem Lk.len_keys {xb c tb pb N len reach : Nat} {fp : List LK} {cv : Value} {came : List E} {places : List Nat} {lv : Value} {vs : List Value} {ls : List (List Nat)} {kd : Nat → Nat} (h : Lk W F xb c T tb fp cv pb N len reach came places lv vs ls kd) : len = (keyl c T).length := by
  rw [h.tab.cnt, ← h.cont.keys]
  unfold live
  rw [List.filter_eq_self.2]
  intro e he
  obtain ⟨i, hi⟩ := List.getElem?_of_mem he
  exact h.cont.there i e hi

set_option maxRecDepth 100000 in
set_option maxHeartbeats 1000000 in
theorem distinct_any (h : Rl W F rb ar T vv mb L Fs) (hT : T.length ≤ 68719476736) (a : Option Addr) (b o cap : Nat) (C : List Int) (hI : IntsS W a b o C) (hl : C.length ≤ maxLen) :
    Calls Try.prog 20 #[.pointer (some ⟨rb, 0, none⟩), .slice a C.length cap] W fun e w' => e = .returned (.tuple (distV ar T C)) ∧ RelS w' (Grow F W.heap.size w') rb ar T ∧ Turn F W w' := by
  have hz := zeroRow
  obtain ⟨Z, hZ⟩ : ∃ Z, Z = rowV 0 := ⟨_, rfl⟩
  rw [← hZ] at hz
  have H0 : Hid (Z = rowV 0) := hZ
  clear hZ
  have hm := rmade_yes h.box
  have c0 := h.box.c0
  have hrow := rowOf_any W a b o cap C hI hl ar h.arle
  have HG : Hid (∀ Y, Stay W Y → RelS Y (Grow F W.heap.size Y) rb ar T ∧ Turn F W Y) := fun Y hY =>
    ⟨⟨_, _, _, _, (h.stay hY).grow (fun k hk => .inl hk) (fun k hk => by
      rcases hk with hk | hk
      · have := h.lt k hk; have := hY.size; omega
      · exact hk.2)⟩, Turn.of_stay hY⟩
  have HC1 : Hid (∀ Y, Stay W Y → Y.cell? ⟨rb, 1, none⟩ = some (.int .i64 T.length)) := fun Y hY => hY.cell h.box.c1
  have HW : Hid (∀ c, rowL ar C (-1) 0 = some c → ∀ Y, Stay W Y → Calls Try.prog 32 #[.pointer (some ⟨rb, 0, none⟩), .agg (rowV c)] Y fun e w' => ∃ x', e = .returned (.pointer (some ⟨x', 0, none⟩)) ∧ RelS w' (Grow F W.heap.size w') rb ar T ∧ Turn F W w' ∧
      Calls Try.prog 45 #[.pointer (some ⟨x', 0, none⟩)] w' fun e w2 => e = .returned (.int .i64 ((keyl c T).length : Int)) ∧ w2 = w') := fun c hc Y hY => by
    have hc2 : c < 2 ^ ar := rowL_lt C (-1) 0 (by omega) (Nat.two_pow_pos ar) c hc
    refine (lookup_any (h.stay hY) hT hc2).mono ?_
    rintro e w' ⟨x', L', Fs', rfl, hR, hx, ht⟩
    have hFg : ∀ k, Grow F Y.heap.size w' k → Grow F W.heap.size w' k := fun k hk => hk.imp id (fun hk => ⟨Nat.le_trans hY.size hk.1, hk.2⟩)
    have hR2 : Rl w' (Grow F W.heap.size w') rb ar T vv mb L' Fs' := hR.grow hFg (fun k hk => by
      rcases hk with hk | hk
      · have := h.lt k hk; have := hY.size; have := ht.size; omega
      · exact hk.2)
    refine ⟨x', rfl, ⟨_, _, _, _, hR2⟩, (Turn.of_stay hY).trans ht, ?_⟩
    obtain ⟨tb, fp, cv, pb, N, len, reach, came, places, lv, vs, ls, kd, hk⟩ := hR.looks _ _ hx
    have := keys_any hk
    rw [hk.len_keys] at this
    exact this
  clear h hI
  unfold distV
  cases hA : rowL ar C (-1) 0 with
  | none =>
    rw [hA] at hrow
    dsimp only [rowR] at hrow ⊢
    obtain ⟨V0, hV0⟩ : ∃ V, V = rowV 0 := ⟨_, rfl⟩
    rw [← hV0] at hrow
    have HV : Hid (V0 = rowV 0) := hV0
    clear hV0 hA
    go_enter Try.func20, Try.ntmps20
    go_wp2_with (first
      | (go_at_call 40; refine hm.mono ?_; rintro e w9 ⟨rfl, hw⟩; have hw' := hw.symm; subst hw'; clear hm)
      | (go_at_call 44; refine hrow.mono ?_; rintro e w1 ⟨rfl, hs1⟩; have HS1 : Hid (Stay W w1) := hs1; clear hs1 hrow)
      | (refine wpList_store_fresh rfl 64 (.tmp 6) (.tmp 18) rfl V0 Z rfl rfl 64 (by rw [HV.out]; exact sizeRow' _) (by simp only [H0.out, HV.out, rowV_size]) (by rw [HV.out]; exact rowV_one _) ?_))
    go_ret2
    exact ⟨rfl, HG.out _ (HS1.out.alloc _)⟩
  | some c =>
    have HW2 := HW.out c hA
    have hc0 : C = [] → c = 0 := fun e => by rw [e] at hA; simp only [rowL, Option.some.injEq] at hA; exact hA.symm
    rw [hA] at hrow
    dsimp only [rowR] at hrow ⊢
    obtain ⟨V0, hV0⟩ : ∃ V, V = rowV c := ⟨_, rfl⟩
    rw [← hV0] at hrow HW2
    have HV : Hid (V0 = rowV c) := hV0
    have HW3 : Hid _ := HW2
    clear hV0 hA HW HW2
    by_cases hC : C = []
    · have hlen : (C.length : Int) = 0 := by rw [hC]; rfl
      rw [hc0 hC, keyl_zero]
      clear hC HW3 hc0
      go_enter Try.func20, Try.ntmps20
      go_wp2_with (first
        | (go_at_call 40; refine hm.mono ?_; rintro e w9 ⟨rfl, hw⟩; have hw' := hw.symm; subst hw'; clear hm)
        | (go_at_call 44; refine hrow.mono ?_; rintro e w1 ⟨rfl, hs1⟩; have HS1 : Hid (Stay W w1) := hs1; have c1 := (HC1.out _ (hs1.alloc (.cells V0 64))); clear hs1 hrow)
        | (refine wpList_store_fresh rfl 64 (.tmp 6) (.tmp 18) rfl V0 Z rfl rfl 64 (by rw [HV.out]; exact sizeRow' _) (by simp only [H0.out, HV.out, rowV_size]) (by rw [HV.out]; exact rowV_one _) ?_))
      all_goals go_ret2
      all_goals exact ⟨two_eq (by omega) rfl, HG.out _ (by first | exact (HS1.out.alloc _) | exact (HS1.out.alloc _).trans (Stay.drewN _ _))⟩
    · have hlen : 0 < (C.length : Int) := by
        have := List.length_pos_iff.2 hC
        omega
      clear hC hc0
      generalize ((keyl c T).length : Int) = M at HW3 ⊢
      go_enter Try.func20, Try.ntmps20
      go_wp2_with (first
        | (go_at_call 40; refine hm.mono ?_; rintro e w9 ⟨rfl, hw⟩; have hw' := hw.symm; subst hw'; clear hm)
        | (go_at_call 44; refine hrow.mono ?_; rintro e w1 ⟨rfl, hs1⟩; have HS1 : Hid (Stay W w1) := hs1; clear hs1 hrow)
        | (refine wpList_store_fresh rfl 64 (.tmp 6) (.tmp 18) rfl V0 Z rfl rfl 64 (by rw [HV.out]; exact sizeRow' _) (by simp only [H0.out, HV.out, rowV_size]) (by rw [HV.out]; exact rowV_one _) ?_)
        | (refine wpList_load_row rfl 64 (.tmp 6) rfl _ rfl 64 V0 (0, 0) (.array 16 4) (heap_alloc_new _ _) Try.underlying64 rfl (by rw [HV.out]; exact sizeRow' _) ?_)
        | (go_at_call 32; refine (HW3.out _ (HS1.out.alloc _)).mono ?_; rintro e w2 ⟨x', rfl, hR2, ht2, hke⟩; have H2 : Hid (RelS w2 (Grow F W.heap.size w2) rb ar T ∧ Turn F W w2) := ⟨hR2, ht2⟩; clear hR2 ht2)
        | (go_at_call 45; refine hke.mono ?_; rintro e w9 ⟨rfl, hw⟩; have hw' := hw.symm; subst hw'; clear hke))
      go_ret2
      exact ⟨rfl, H2.out.1, H2.out.2⟩
end

set_option maxRecDepth 100000 in
theorem new_bad (x : Int) (hx : x < 0 ∨ 16 < x) (W : World) : Calls Try.prog 16 #[.int .i64 x] W fun e w' => e = .returned (.tuple #[.pointer none, .int .i64 2]) ∧ Stay W w' := by
  by_cases h : x < 0
  · clear hx
    go_enter Try.func16, Try.ntmps16
    go_wp2
    go_ret2
    exact ⟨rfl, Stay.refl _⟩
  · have h2 : 16 < x := by omega
    clear hx
    go_enter Try.func16, Try.ntmps16
    go_wp2
    go_ret2
    exact ⟨rfl, Stay.refl _⟩
end Go.Proofs.Ytnhmjheipfopoaa.L
namespace Go.Proofs.Ytnhmjheipfopoaa.L
open Go.RowKit Go.Maps Go.Shelf Go.Proofs.Ytnhmjheipfopoaa

/-- xs is lent: it lies in block g, with two marks behind it. -/
def Lent4 (base : Nat) (w : World) (g cap : Nat) (xs : List Int) : Prop := OwnI base w (.slice (some ⟨g, 0, none⟩) (xs.length + 2) cap) (xs ++ [-77, -77])
theorem Lent4.ints {base : Nat} {w : World} {g cap : Nat} {xs : List Int} (h : Lent4 base w g cap xs) : IntsS w (some ⟨g, 0, none⟩) g 0 xs := by
  unfold Lent4 OwnI at h
  rw [List.length_append, List.map_append] at h
  exact ints_of_row h
theorem Lent4.bound {base : Nat} {w : World} {g cap : Nat} {xs : List Int} (h : Lent4 base w g cap xs) : base ≤ g ∧ xs.length + 2 ≤ cap ∧ cap ≤ maxLen ∧ g < w.heap.size := by
  unfold Lent4 OwnI at h
  rw [List.length_append] at h
  exact ⟨(rowBound h rfl).1, (rowBound h rfl).2.1, (rowBound h rfl).2.2, (h.lt g rfl).2⟩

theorem own_form2 {base n : Nat} {w : World} {v : Value} {e : TypeId} {xs : List Value} (h : w.ownsRow base e 1 v (n + 2) xs) : ∃ g c, v = .slice (some ⟨g, 0, none⟩) (n + 2) c := by
  rcases h.2 with ⟨_, h2⟩ | ⟨b, c, cur, hv, _⟩
  · omega
  · exact ⟨b, c, hv⟩

set_option maxRecDepth 100000 in
set_option maxHeartbeats 1000000 in
theorem lent_some (w : World) (ad : Addr) (cap : Nat) (xs : List Int) (X : List Value) (hX : X = xs.map (Value.int .i64)) (hx : ∀ j u, X[j]? = some u → w.cell? (ad.add j) = some u) (hb : xs.length ≤ 1099511627776) :
    Calls Try.prog 11 #[.slice (some ad) xs.length cap] w fun e w' => ∃ g c, e = .returned (.slice (some ⟨g, 0, none⟩) xs.length c) ∧ Lent4 w.heap.size w' g c xs ∧ Stay w w' := by
  obtain ⟨i0, hi, hz0, hz1, hz2⟩ := info_parts infoInt
  have HX : Hid ((∀ j u, X[j]? = some u → w.cell? (ad.add j) = some u) ∧ (∀ u ∈ X, u.oneCell' = true) ∧ X.length = xs.length ∧ X = xs.map (Value.int .i64)) := ⟨hx, by simp [hX, Value.oneCell'], by simp [hX], hX⟩
  clear hx hX
  go_enter Try.func11, Try.ntmps11
  go_wp2_with (first
    | (at_builtin; refine wpList_append_own _ rfl _ _ 23 rfl w.heap.size 3 i0 _ 1 8 Try.underlying23 hi hz0 hz1 hz2 rfl (by decide) (.slice none 0 0) 0 [] rfl (World.ownsRow_nil _ _ _ _) ad xs.length cap X rfl (by rw [HX.out.2.2.1]; simp) HX.out.1 HX.out.2.1 (by unfold maxLen; omega) (by omega) (Nat.le_refl _) ?_; intro v1 w1 hown1 hg1 hn1; have H1 : Hid (OwnI w.heap.size w1 v1 xs ∧ Stay w w1) := ⟨by unfold OwnI; rw [Nat.zero_add, List.nil_append, HX.out.2.2.2] at hown1; exact hown1, (Stay.refl w).grown hg1 (Nat.le_refl _) (fun k e => by simp [Value.ownBlock] at e)⟩; clear hown1 hg1 hn1)
    | (at_builtin; refine wpList_append_own _ rfl _ _ 23 rfl w.heap.size 3 i0 _ 1 8 Try.underlying23 hi hz0 hz1 hz2 rfl (by decide) v1 xs.length (xs.map (Value.int .i64)) rfl (H1.out.1.alloc _) ⟨w1.heap.size, 0, none⟩ 2 2 [.int .i64 (-77), .int .i64 (-77)] rfl rfl (new_cells w1 [.int .i64 (-77), .int .i64 (-77)] 3) (by simp [Value.oneCell']) (by unfold maxLen; omega) (by omega) (by rw [World.size_alloc]; have := H1.out.2.size; omega) ?_; intro v2 w2 hown2 hg2 hn2; obtain ⟨g, c, rfl⟩ := own_form2 hown2; have H2 : Hid (Lent4 w.heap.size w2 g c xs ∧ Stay w w2) := ⟨by unfold Lent4 OwnI; rw [List.length_append, List.map_append]; exact hown2, (H1.out.2.alloc _).grown hg2 (by rw [World.size_alloc]; have := H1.out.2.size; omega) (fun k e => (H1.out.1.lt k e).1)⟩; have hb1 := H2.out.1.bound.2.1; have hb3 := H2.out.1.bound.2.2.1; unfold maxLen at hb3; clear hown2 hg2 hn2))
  go_ret
  exact ⟨_, _, rfl, H2.out.1, H2.out.2⟩

set_option maxRecDepth 100000 in
set_option maxHeartbeats 1000000 in
theorem lent_none (w : World) (cap : Nat) :
    Calls Try.prog 11 #[.slice none 0 cap] w fun e w' => ∃ g c, e = .returned (.slice (some ⟨g, 0, none⟩) 0 c) ∧ Lent4 w.heap.size w' g c [] ∧ Stay w w' := by
  obtain ⟨i0, hi, hz0, hz1, hz2⟩ := info_parts infoInt
  have HO : Hid (OwnI w.heap.size w (.slice none 0 0) []) := World.ownsRow_nil _ _ _ _
  go_enter Try.func11, Try.ntmps11
  go_wp2_with (first
    | (at_builtin; refine wpList_append_own _ rfl _ _ 23 rfl w.heap.size 3 i0 _ 1 8 Try.underlying23 hi hz0 hz1 hz2 rfl (by decide) (.slice none 0 0) 0 [] rfl (HO.out.alloc _) ⟨w.heap.size, 0, none⟩ 2 2 [.int .i64 (-77), .int .i64 (-77)] rfl rfl (new_cells w [.int .i64 (-77), .int .i64 (-77)] 3) (by simp [Value.oneCell']) (by unfold maxLen; omega) (by omega) (by rw [World.size_alloc]; omega) ?_; intro v2 w2 hown2 hg2 hn2; obtain ⟨g, c, rfl⟩ := own_form2 hown2; have H2 : Hid (Lent4 w.heap.size w2 g c [] ∧ Stay w w2) := ⟨by unfold Lent4 OwnI; exact hown2, (Stay.new w _).grown hg2 (by rw [World.size_alloc]; omega) (fun k e => by simp [Value.ownBlock] at e)⟩; have hb1 := H2.out.1.bound.2.1; have hb3 := H2.out.1.bound.2.2.1; unfold maxLen at hb3; clear hown2 hg2 hn2))
  go_ret
  exact ⟨_, _, rfl, H2.out.1, H2.out.2⟩

theorem lent_any (w : World) (a : Option Addr) (b off cap : Nat) (xs : List Int) (hS : IntsS w a b off xs) (hb : xs.length ≤ 1099511627776) :
    Calls Try.prog 11 #[.slice a xs.length cap] w fun e w' => ∃ g c, e = .returned (.slice (some ⟨g, 0, none⟩) xs.length c) ∧ Lent4 w.heap.size w' g c xs ∧ Stay w w' := by
  cases a with
  | none =>
    have hxs : xs = [] := by
      cases xs with
      | nil => rfl
      | cons x xs => have := hS.1 (by simp); cases this
    subst hxs
    exact lent_none w cap
  | some ad =>
    refine lent_some w ad cap xs _ rfl (fun j u hu => ?_) hb
    obtain ⟨ad', h1, h2⟩ := src_of hS (Nat.lt_of_le_of_lt (Nat.zero_le j) (List.getElem?_eq_some_iff.1 hu).1)
    obtain rfl := Option.some.inj h1
    exact h2 j u hu

/-- A tuple's values in some columns. -/
def cutC (t C : List Int) : List Int := C.map fun x => t.getD x.toNat 0
theorem cutC_len (t C : List Int) : (cutC t C).length = C.length := by simp [cutC]

set_option maxRecDepth 100000 in
set_option maxHeartbeats 2000000 in
theorem y4Cut_any (w : World) (a1 : Option Addr) (b1 o1 c1 : Nat) (t : List Int) (hx : IntsS w a1 b1 o1 t) (hlx : t.length ≤ maxLen) (a2 : Option Addr) (b2 o2 c2 : Nat) (C : List Int) (hC : IntsS w a2 b2 o2 C) (hlC : C.length ≤ 16) (hin : ∀ x ∈ C, 0 ≤ x ∧ x < (t.length : Int)) :
    Calls Try.prog 22 #[.slice a1 t.length c1, .slice a2 C.length c2] w fun e w' => ∃ v, e = .returned v ∧ OwnI w.heap.size w' v (cutC t C) ∧ Stay w w' := by
  unfold maxLen at hlx
  obtain ⟨i0, hi, hz0, hz1, hz2⟩ := info_parts infoInt
  have HX : Hid (IntsS w a1 b1 o1 t) := hx
  have HC : Hid (IntsS w a2 b2 o2 C ∧ ∀ x ∈ C, 0 ≤ x ∧ x < (t.length : Int)) := ⟨hC, hin⟩
  have HO : Hid (OwnI w.heap.size w (.slice none 0 0) (cutC t (C.take 0))) := World.ownsRow_nil _ _ _ _
  clear hx hC hin
  go_enter Try.func22, Try.ntmps22
  go_wp2
  go_loopw [5, 6] (fun v i wr => ∃ k : Nat, k ≤ C.length ∧ i = .int .i64 k ∧ OwnI w.heap.size wr v (cutC t (C.take k)) ∧ Stay w wr) (fun v i _ => C.length - (intOf i).toNat)
  case atStart => exact ⟨0, Nat.zero_le _, rfl, HO.out, Stay.refl _⟩
  case round =>
    obtain ⟨k, hk, rfl, hown, hst⟩ := hrel
    by_cases hlt : k < C.length
    · have hi1 : (k : Int) < (C.length : Int) := by omega
      obtain rfl := HC.out.1.1 (by omega)
      have hck := hst.cell (HC.out.1.2 k hlt)
      have hin := HC.out.2 _ (List.getElem_mem hlt)
      obtain ⟨q, hq⟩ : ∃ q : Nat, C[k] = q := ⟨C[k].toNat, by omega⟩
      have hN : cutC t (C.take (k + 1)) = cutC t (C.take k) ++ [t.getD q 0] := by
        unfold cutC
        rw [List.take_succ_eq_append_getElem hlt, List.map_append, hq]
        simp
      rw [hq] at hck hin
      have hqt : q < t.length := by omega
      obtain rfl := HX.out.1 (by omega)
      have hcq := hst.cell (HX.out.2 q hqt)
      rw [List.getD_eq_getElem?_getD, List.getElem?_eq_getElem hqt] at hN
      have hq2 : (q : Int) < (t.length : Int) := by omega
      have HN : Hid (cutC t (C.take (k + 1)) = cutC t (C.take k) ++ [t[q]]) := hN
      have HO2 : Hid (OwnI w.heap.size wr u5 (cutC t (C.take k)) ∧ Stay w wr) := ⟨hown, hst⟩
      have hl2 : (cutC t (C.take k)).length ≤ 16 := by rw [cutC_len, List.length_take]; omega
      clear hown hst hin hq hN HO
      generalize t[q] = x at hcq HN
      go_wp2_with (at_builtin; refine wpList_append_own _ rfl _ _ 23 rfl w.heap.size 3 i0 _ 1 8 Try.underlying23 hi hz0 hz1 hz2 rfl (by decide) u5 (cutC t (C.take k)).length ((cutC t (C.take k)).map (Value.int .i64)) rfl (HO2.out.1.alloc _) ⟨wr.heap.size, 0, none⟩ 1 1 [.int .i64 x] rfl rfl (new_cells wr [.int .i64 x] 3) (by simp [Value.oneCell']) (by unfold maxLen; omega) (by omega) (by rw [World.size_alloc]; have := HO2.out.2.size; omega) ?_; intro v2 w2 hown2 hg2 hn2; have HR : Hid (OwnI w.heap.size w2 v2 (cutC t (C.take (k + 1))) ∧ Stay w w2) := ⟨(by rw [HN.out]; unfold OwnI; rw [List.length_append, List.map_append]; exact hown2), (HO2.out.2.alloc _).grown hg2 (by rw [World.size_alloc]; have := HO2.out.2.size; omega) (fun k e => (HO2.out.1.lt k e).1)⟩; clear hown2 hg2 hn2)
      refine ⟨⟨k + 1, by omega, by go_num, HR.out.1, HR.out.2⟩, ?_⟩
      simp [intOf]; omega
    · have hi1 : ¬ (k : Int) < (C.length : Int) := by omega
      obtain rfl : k = C.length := by omega
      rw [List.take_length] at hown
      have HR : Hid (OwnI w.heap.size wr u5 (cutC t C) ∧ Stay w wr) := ⟨hown, hst⟩
      clear hown hst HO
      go_wp2
      go_ret
      exact ⟨_, rfl, HR.out.1, HR.out.2⟩
end Go.Proofs.Ytnhmjheipfopoaa.L
