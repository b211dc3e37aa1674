/- The document's relation in memory: New, Len, tuple, Place. The document's relation: row, keyed, Match. -/
import Derived.Test.YtnhmjheipfopoaaL7a
import Derived.Test.YtnhmjheipfopoaaL6o
namespace Go.Proofs.Ytnhmjheipfopoaa.L
open Go.RowKit Go.Maps Go.Shelf Go.Proofs.Ytnhmjheipfopoaa

/-- At qb lies the document's relation of the tuples T: G names the blocks that it writes, R those of its tuples, which stay. -/
structure Rf (W : World) (G R : Nat → Prop) (qb ar : Nat) (T : List (List Int)) (lv : Value) (us : List Tup) : Prop where
  box : W.heap[qb]? = some (.cells #[.int .i64 ar, lv] 38 (0, 0))
  row : W.ownsRow 0 23 1 lv us.length (us.map Tup.v)
  eqT : us.map Tup.xs = T
  each : ∀ u ∈ us, IntsS W u.a u.b u.o u.xs
  rows : ∀ t ∈ T, t.length = ar
  nodup : T.Nodup
  arle : ar ≤ 16
  foot : G qb ∧ (∀ k, lv.ownBlock = some k → G k ∧ k ≠ qb)
  keep : ∀ u ∈ us, 0 < u.xs.length → R u.b ∧ ¬ G u.b
  lt : ∀ k, (G k ∨ R k) → k < W.heap.size

def RfS (W : World) (G R : Nat → Prop) (qb ar : Nat) (T : List (List Int)) : Prop := ∃ lv us, Rf W G R qb ar T lv us

section
variable {W W' : World} {G R : Nat → Prop} {qb ar : Nat} {T : List (List Int)} {lv : Value} {us : List Tup}

theorem Rf.turn {S : Nat → Prop} (h : Rf W G R qb ar T lv us) (ht : Turn S W W') (hg : ∀ k, G k → ¬ S k) (hr : ∀ k, R k → ¬ S k) : Rf W' G R qb ar T lv us :=
  { h with
    box := ht.heap h.box (hg _ h.foot.1)
    row := ht.row h.row (fun k hk => hg k (h.foot.2 k hk).1)
    each := fun u hu => ints_turn (h.each u hu) ht (fun h0 => hr _ (h.keep u hu h0).1)
    lt := fun k hk => Nat.lt_of_lt_of_le (h.lt k hk) ht.size }
theorem Rf.stay (h : Rf W G R qb ar T lv us) (ht : Stay W W') : Rf W' G R qb ar T lv us := h.turn (S := fun _ => False) (Turn.of_stay ht) (fun _ _ e => e) (fun _ _ e => e)
theorem Rf.len (h : Rf W G R qb ar T lv us) : us.length = T.length := by rw [← h.eqT]; simp
theorem Rf.c0 (h : Rf W G R qb ar T lv us) : W.cell? ⟨qb, 0, none⟩ = some (.int .i64 ar) := by simp [World.cell?, h.box]
theorem Rf.c1 (h : Rf W G R qb ar T lv us) : W.cell? ⟨qb, 1, none⟩ = some lv := by simp [World.cell?, h.box]
theorem Rf.free (h : Rf W G R qb ar T lv us) (k : Nat) : W.frozen? ⟨qb, k, none⟩ = false := by simp [World.frozen?, h.box]
/-- The list of tuples as a slice; each of its cells. -/
theorem Rf.slice (h : Rf W G R qb ar T lv us) : ∃ a c, lv = .slice a T.length c ∧ T.length ≤ maxLen ∧ ∀ (i : Nat) (u : Tup), us[i]? = some u → ∃ g, a = some ⟨g, 0, none⟩ ∧ W.cell? ⟨g, i, none⟩ = some u.v := by
  have hl := h.len
  rcases id h.row.2 with ⟨h1, h2⟩ | ⟨g, c, cur, h1, h2, h3, h4, h5, h6, h7⟩
  · refine ⟨none, 0, by rw [h1, ← hl, h2], by omega, fun i u hu => ?_⟩
    have := (List.getElem?_eq_some_iff.1 hu).1
    omega
  · refine ⟨some ⟨g, 0, none⟩, c, by rw [h1, hl], by omega, fun i u hu => ⟨g, rfl, ?_⟩⟩
    have hi := (List.getElem?_eq_some_iff.1 hu).1
    have e : (cur.toList.take (us.length * 1))[i]? = (us.map Tup.v)[i]? := by rw [h7]
    rw [List.getElem?_take_of_lt (by omega), List.getElem?_map, hu] at e
    simp only [World.cell?, h3]
    simpa using e
theorem Rf.at (h : Rf W G R qb ar T lv us) {i : Nat} {u : Tup} (hu : us[i]? = some u) : T[i]? = some u.xs := by
  rw [← h.eqT, List.getElem?_map, hu]; rfl

set_option maxRecDepth 100000 in
theorem y4Len_yes (h : Rf W G R qb ar T lv us) : Calls Try.prog 8 #[.pointer (some ⟨qb, 0, none⟩)] W fun e w' => e = .returned (.int .i64 T.length) ∧ w' = W := by
  obtain ⟨a, c, rfl, _, _⟩ := h.slice
  have c1 := h.c1
  clear h
  go_enter Try.func8, Try.ntmps8
  go_wp2
  go_ret
  exact ⟨rfl, rfl⟩

set_option maxRecDepth 100000 in
set_option maxHeartbeats 1000000 in
theorem y4tuple_any (c0 : W.cell? ⟨qb, 0, none⟩ = some (.int .i64 ar)) (a : Option Addr) (b o cap : Nat) (t : List Int) (hI : IntsS W a b o t) (hl : t.length ≤ maxLen) :
    Calls Try.prog 55 #[.pointer (some ⟨qb, 0, none⟩), .slice a t.length cap] W fun e w' => e = .returned (.bool (okT ar t)) ∧ w' = W := by
  unfold maxLen at hl
  unfold okT
  by_cases he : t.length = ar
  · have h1 : ((t.length : Int) == (ar : Int)) = true := by simp [he]
    have h1' : ((t.length : Int) != (ar : Int)) = false := by simp [he]
    have HE : Hid ((t.length == ar) = true) := by show _ = _; simp [he]
    have HI : Hid (IntsS W a b o t) := hI
    clear he hI
    go_enter Try.func55, Try.ntmps55
    go_wp2
    go_loopw [5] (fun i wr => ∃ k : Nat, k ≤ t.length ∧ i = .int .i64 k ∧ (∀ j (h : j < t.length), j < k → 0 ≤ t[j]) ∧ wr = W) (fun i _ => t.length - (intOf i).toNat)
    case atStart => exact ⟨0, Nat.zero_le _, rfl, fun j _ hj => absurd hj (Nat.not_lt_zero _), rfl⟩
    case round =>
      obtain ⟨k, hk, rfl, hh, hw⟩ := hrel
      have hw' := hw.symm; subst hw'
      by_cases hlt : k < t.length
      · obtain rfl := HI.out.1 (by omega)
        have hc := HI.out.2 k hlt
        have hkb : (k : Int) < (t.length : Int) := by omega
        have HH : Hid (∀ j (h : j < t.length), j < k → 0 ≤ t[j]) := hh
        have HN : Hid (t[k] < 0 → (decide (∃ x ∈ t, x < 0)) = true) := fun h => by simpa using ⟨_, List.getElem_mem hlt, h⟩
        have HN2 : Hid (¬ t[k] < 0 → ∀ j (h : j < t.length), j < k + 1 → 0 ≤ t[j]) := fun h j hj hjk => by
          by_cases e : j = k
          · subst e; omega
          · exact HH.out j hj (by omega)
        generalize t[k] = x at hc HN HN2
        clear hh
        by_cases hneg : x < 0
        · go_wp2
          go_ret
          exact ⟨by rw [HE.out, HN.out hneg]; rfl, rfl⟩
        · go_wp2
          go_roundw
          case rel => exact ⟨k + 1, by omega, by go_num, HN2.out hneg, trivial⟩
          case measure => simp [intOf]; omega
      · have hkb : ¬ (k : Int) < (t.length : Int) := by omega
        have HN : Hid ((decide (∃ x ∈ t, x < 0)) = false) := by
          show _ = _
          rw [decide_eq_false_iff_not]
          rintro ⟨x, hx, h⟩
          obtain ⟨j, hj, rfl⟩ := List.mem_iff_getElem.1 hx
          have := hh j hj (by omega)
          omega
        clear hh
        go_wp2
        go_ret
        exact ⟨by rw [HE.out, HN.out]; rfl, rfl⟩
  · have h1' : ((t.length : Int) != (ar : Int)) = true := by simp; omega
    have h2 : (t.length == ar) = false := by simp [he]
    rw [h2]
    clear he hI
    go_enter Try.func55, Try.ntmps55
    go_wp2
    go_ret
    exact ⟨by simp, rfl⟩

theorem posL_at {T : List (List Int)} (hn : T.Nodup) {k : Nat} {t : List Int} (h : T[k]? = some t) : posL T t = [k] := by
  have hk : k ∈ posL T t := by
    unfold posL
    rw [List.mem_filter, List.mem_range]
    obtain ⟨h1, h2⟩ := List.getElem?_eq_some_iff.1 h
    exact ⟨h1, by simp [h1, h2]⟩
  rcases posL_few hn t with e | ⟨p, e, _⟩
  · rw [e] at hk; cases hk
  · rw [e] at hk ⊢
    rw [List.mem_singleton.1 hk]
theorem posL_not {T : List (List Int)} {t : List Int} (h : ∀ j (hj : j < T.length), T[j] ≠ t) : posL T t = [] := by
  unfold posL
  rw [List.filter_eq_nil_iff]
  intro p hp
  rw [List.mem_range] at hp
  have := h p hp
  simp [hp, this]

set_option maxRecDepth 100000 in
set_option maxHeartbeats 1000000 in
theorem y4Place_any (h : Rf W G R qb ar T lv us) (a : Option Addr) (b o cap : Nat) (t : List Int) (hI : IntsS W a b o t) (hl : t.length ≤ maxLen) :
    Calls Try.prog 56 #[.pointer (some ⟨qb, 0, none⟩), .slice a t.length cap] W fun e w' => e = .returned (.tuple (placeV (posL T t))) ∧ ∃ n, w' = W.drewN n := by
  obtain ⟨a9, c9, rfl, hm, hcell⟩ := h.slice
  have hlen : ∀ n, Calls Try.prog 8 #[.pointer (some ⟨qb, 0, none⟩)] (W.drewN n) fun e w' => e = .returned (.int .i64 T.length) ∧ w' = W.drewN n := fun n => y4Len_yes (h.stay (Stay.drewN W n))
  have c1 : ∀ n, (W.drewN n).cell? ⟨qb, 1, none⟩ = some (.slice a9 T.length c9) := fun n => h.c1
  have H : Hid (Rf W G R qb ar T (.slice a9 T.length c9) us ∧ IntsS W a b o t ∧ ∀ (i : Nat) (u : Tup), us[i]? = some u → ∃ g, a9 = some ⟨g, 0, none⟩ ∧ W.cell? ⟨g, i, none⟩ = some u.v) := ⟨h, hI, hcell⟩
  have hul := h.len
  unfold maxLen at hm
  clear h hI hcell
  go_enter Try.func56, Try.ntmps56
  go_wp2
  go_loopw [6] (fun i wr => ∃ k : Nat, k ≤ T.length ∧ i = .int .i64 k ∧ (∀ j (hj : j < T.length), j < k → T[j] ≠ t) ∧ ∃ n, wr = W.drewN n) (fun i _ => T.length - (intOf i).toNat)
  case atStart => exact ⟨0, Nat.zero_le _, rfl, fun j _ hj => absurd hj (Nat.not_lt_zero _), 0, rfl⟩
  case round =>
    obtain ⟨k, hk, rfl, hh, n, rfl⟩ := hrel
    have hln := hlen n
    have c1n := c1 n
    by_cases hlt : k < T.length
    · have hkb : (k : Int) < (T.length : Int) := by omega
      obtain ⟨u, hu⟩ : ∃ u, us[k]? = some u := ⟨_, List.getElem?_eq_getElem (by omega)⟩
      have hTk := H.out.1.at hu
      obtain ⟨g, rfl, hc⟩ := H.out.2.2 k u hu
      have hc' : (W.drewN n).cell? ⟨g, k, none⟩ = some (.slice u.a u.xs.length u.c) := hc
      have hxl : u.xs.length ≤ maxLen := by have := H.out.1.rows _ (List.mem_of_getElem? hTk); have := H.out.1.arle; unfold maxLen; omega
      have hsm := y4Same_any (W.drewN n) u.a a u.b u.o b o u.c cap u.xs t ((H.out.1.each u (List.mem_of_getElem? hu)).stay (Stay.drewN W n)) (H.out.2.1.stay (Stay.drewN W n)) hxl hl
      have HY : Hid (u.xs = t → posL T t = [k]) := fun e => posL_at H.out.1.nodup (by rw [hTk, e])
      have HN : Hid (u.xs ≠ t → ∀ j (hj : j < T.length), j < k + 1 → T[j] ≠ t) := fun e j hj hjk => by
        by_cases e2 : j = k
        · subst e2
          rw [List.getElem?_eq_getElem hj] at hTk
          rw [Option.some.inj hTk]; exact e
        · exact hh j hj (by omega)
      clear hh hc hu hTk hxl
      generalize u.xs.length = ul at hc' hsm
      generalize u.xs = ux at hsm HY HN
      by_cases he : ux = t
      · rw [show decide (ux = t) = true by simpa using he] at hsm
        have HP : Hid (posL T t = [k]) := HY.out he
        clear HY HN he
        go_wp2_with (first | (go_at_call 8; refine hln.mono ?_; rintro e w' ⟨rfl, hw⟩; have hw' := hw.symm; subst hw'; clear hln) | (go_at_call 13; refine hsm.mono ?_; rintro e w' ⟨rfl, n2, rfl⟩; clear hsm))
        go_ret2
        exact ⟨by rw [HP.out]; rfl, _, rfl⟩
      · rw [show decide (ux = t) = false by simpa using he] at hsm
        have HP : Hid _ := HN.out he
        clear HY HN he
        go_wp2_with (first | (go_at_call 8; refine hln.mono ?_; rintro e w' ⟨rfl, hw⟩; have hw' := hw.symm; subst hw'; clear hln) | (go_at_call 13; refine hsm.mono ?_; rintro e w' ⟨rfl, n2, rfl⟩; clear hsm))
        go_roundw
        case rel => exact ⟨k + 1, by omega, by go_num, HP.out, _, rfl⟩
        case measure => simp [intOf]; omega
    · have hkb : ¬ (k : Int) < (T.length : Int) := by omega
      have HP : Hid (posL T t = []) := posL_not (fun j hj => hh j hj (by omega))
      clear hh
      go_wp2_with (go_at_call 8; refine hln.mono ?_; rintro e w' ⟨rfl, hw⟩; have hw' := hw.symm; subst hw'; clear hln)
      go_ret2
      exact ⟨by rw [HP.out]; rfl, n, rfl⟩

theorem y4New_yes (W : World) (har : ar ≤ 16) : Calls Try.prog 25 #[.int .i64 ar] W fun e w' => e = .returned (.tuple #[.pointer (some ⟨W.heap.size, 0, none⟩), .int .i64 0]) ∧ RfS w' (fun k => k = W.heap.size) (fun _ => False) W.heap.size ar [] ∧ Stay W w' := by
  have h1 : ¬ (ar : Int) < 0 := by omega
  have h2 : (ar : Int) ≤ 16 := by omega
  have HR : Hid (RfS (W.alloc (.cells #[.int .i64 ar, .slice none 0 0] 38)) (fun k => k = W.heap.size) (fun _ => False) W.heap.size ar []) :=
    ⟨.slice none 0 0, [], heap_new _ _, World.ownsRow_nil _ _ _ _, rfl, fun u hu => (by cases hu), fun t ht => (by cases ht), List.nodup_nil, har, ⟨rfl, fun k hk => by simp [Value.ownBlock] at hk⟩, fun u hu => (by cases hu), fun k hk => by rcases hk with hk | hk <;> simp_all⟩
  go_enter Try.func25, Try.ntmps25
  go_wp2
  go_ret2
  exact ⟨rfl, HR.out, Stay.new _ _⟩
theorem y4New_no (x : Int) (hx : x < 0 ∨ 16 < x) (W : World) : Calls Try.prog 25 #[.int .i64 x] W fun e w' => e = .returned (.tuple #[.pointer none, .int .i64 2]) ∧ w' = W := by
  by_cases h : x < 0
  · clear hx
    go_enter Try.func25, Try.ntmps25
    go_wp2
    go_ret2
    exact ⟨rfl, rfl⟩
  · have h2 : 16 < x := by omega
    clear hx
    go_enter Try.func25, Try.ntmps25
    go_wp2
    go_ret2
    exact ⟨rfl, rfl⟩
end
end Go.Proofs.Ytnhmjheipfopoaa.L
namespace Go.Proofs.Ytnhmjheipfopoaa.L
open Go.RowKit Go.Maps Go.Shelf Go.Proofs.Ytnhmjheipfopoaa
section
variable {W W' : World} {G R : Nat → Prop} {qb ar : Nat} {T : List (List Int)} {lv : Value} {us : List Tup}

/-- The columns rise and are the relation's. -/
def rowB (ar : Nat) (C : List Int) : Bool := (rowL ar C (-1) 0).isSome
theorem rowL_some : ∀ (C : List Int) (last : Int) (acc : Nat), (rowL ar C last acc).isSome = true ↔ (∀ j (h : j < C.length), (C[j] < ar) ∧ (if j = 0 then last else (C.getD (j - 1) 0)) < C[j])
  | [], last, acc => by simp [rowL]
  | x :: xs, last, acc => by
    unfold rowL
    by_cases hx : x ≤ last ∨ (ar : Int) ≤ x
    · rw [if_pos hx]
      simp only [Option.isSome_none, Bool.false_eq_true, false_iff]
      intro h
      have := h 0 (by simp)
      simp at this
      omega
    · rw [if_neg hx, rowL_some xs x]
      constructor
      · intro h j hj
        cases j with
        | zero => simp; omega
        | succ j =>
          have := h j (by simpa using hj)
          refine ⟨by simpa using this.1, ?_⟩
          have h2 := this.2
          cases j with
          | zero => simpa using h2
          | succ j => simpa using h2
      · intro h j hj
        have := h (j + 1) (by simpa using hj)
        refine ⟨by simpa using this.1, ?_⟩
        have h2 := this.2
        cases j with
        | zero => simpa using h2
        | succ j => simpa using h2

/-- What is asked of a column by itself. -/
def colOk (ar : Nat) (C : List Int) (j : Nat) : Bool := decide (0 ≤ C.getD j 0 ∧ C.getD j 0 < ar ∧ (0 < j → C.getD (j - 1) 0 < C.getD j 0))
theorem rowB_iff (ar : Nat) (C : List Int) : rowB ar C = true ↔ ∀ j, j < C.length → colOk ar C j = true := by
  unfold rowB
  rw [rowL_some]
  constructor
  · intro h j
    induction j with
    | zero =>
      intro hj
      have := h 0 hj
      simp only [if_true] at this
      simp [colOk, hj]; omega
    | succ j ih =>
      intro hj
      have h1 := ih (by omega)
      have h2 := h (j + 1) hj
      have hj' : j < C.length := by omega
      simp [colOk, hj, hj'] at h1 h2 ⊢
      omega
  · intro h j hj
    have h1 := h j hj
    simp [colOk, hj] at h1
    refine ⟨by omega, ?_⟩
    by_cases e : j = 0
    · subst e; simp; omega
    · rw [if_neg e]; have := h1.2.2.resolve_left (by omega); simpa using this
theorem rowB_no {ar : Nat} {C : List Int} {j : Nat} (hj : j < C.length) (h : colOk ar C j = false) : rowB ar C = false := by
  cases hb : rowB ar C with
  | false => rfl
  | true => rw [(rowB_iff ar C).1 hb j hj] at h; cases h

set_option maxRecDepth 100000 in
set_option maxHeartbeats 2000000 in
theorem y4row_any (c0 : W.cell? ⟨qb, 0, none⟩ = some (.int .i64 ar)) (a : Option Addr) (b o cap : Nat) (C : List Int) (hI : IntsS W a b o C) (hl : C.length ≤ maxLen) :
    Calls Try.prog 26 #[.pointer (some ⟨qb, 0, none⟩), .slice a C.length cap] W fun e w' => e = .returned (.bool (rowB ar C)) ∧ ∃ n, w' = W.drewN n := by
  unfold maxLen at hl
  have HI : Hid (IntsS W a b o C) := hI
  clear hI
  go_enter Try.func26, Try.ntmps26
  go_wp2
  go_loopw [5] (fun i wr => ∃ k : Nat, k ≤ C.length ∧ i = .int .i64 k ∧ (∀ j, j < k → colOk ar C j = true) ∧ ∃ n, wr = W.drewN n) (fun i _ => C.length - (intOf i).toNat)
  case atStart => exact ⟨0, Nat.zero_le _, rfl, fun j hj => absurd hj (Nat.not_lt_zero _), 0, rfl⟩
  case round =>
    obtain ⟨k, hk, rfl, hh, n, rfl⟩ := hrel
    by_cases hlt : k < C.length
    · obtain rfl := HI.out.1 (by omega)
      have hc : W.cell? ⟨b, o + k, none⟩ = some (.int .i64 C[k]) := HI.out.2 k hlt
      have hkb : (k : Int) < (C.length : Int) := by omega
      have HY : Hid (colOk ar C k = true → ∀ j, j < k + 1 → colOk ar C j = true) := fun e j hj => by
        by_cases e2 : j = k
        · subst e2; exact e
        · exact hh j (by omega)
      have HN : Hid (colOk ar C k = false → rowB ar C = false) := rowB_no hlt
      by_cases hk1 : k = 0
      · have HX : Hid (colOk ar C k = decide (0 ≤ C[k] ∧ C[k] < (ar : Int))) := by subst hk1; show _ = _; simp [colOk, hlt]
        generalize C[k] = x at hc HX
        have hk0 : decide (0 < k) = false := by simp; omega
        clear hh hk1
        by_cases h1 : x < 0
        · have HZ : Hid (rowB ar C = false) := HN.out (by rw [HX.out]; simp; omega)
          clear HX HY HN
          go_wp2
          go_quiet (fail)
          go_wp2
          go_ret
          exact ⟨by simp [HZ.out], _, World.drewN_drewN _ _ _⟩
        · have h1' : decide (x < 0) = false := decide_eq_false h1
          by_cases h2 : (ar : Int) ≤ x
          · have HZ : Hid (rowB ar C = false) := HN.out (by rw [HX.out]; simp; omega)
            clear HX HY HN h1
            go_wp2
            go_quiet (fail)
            go_wp2
            go_ret
            exact ⟨by simp [HZ.out], _, World.drewN_drewN _ _ _⟩
          · have HZ : Hid (∀ j, j < k + 1 → colOk ar C j = true) := HY.out (by rw [HX.out]; simp; omega)
            have h2' : decide ((ar : Int) ≤ x) = false := decide_eq_false h2
            clear HX HY HN h1 h2
            go_wp2
            go_quiet (fail)
            go_wp2
            go_roundw
            case rel => exact ⟨k + 1, by omega, by go_num, HZ.out, _, rfl⟩
            case measure => simp [intOf]; omega
      · have hlt2 : k - 1 < C.length := by omega
        have hc2 : W.cell? ⟨b, o + (k - 1), none⟩ = some (.int .i64 C[k - 1]) := HI.out.2 (k - 1) hlt2
        have hkb2 : ((k : Int) - 1) < (C.length : Int) := by omega
        have hkb3 : (0 : Int) ≤ ((k : Int) - 1) := by omega
        have hkn : ((k : Int) - 1).toNat = k - 1 := by omega
        have HX : Hid (colOk ar C k = decide (0 ≤ C[k] ∧ C[k] < (ar : Int) ∧ C[k - 1] < C[k])) := by
          have : 0 < k := by omega
          show _ = _; simp [colOk, hlt, hlt2, this]
        generalize C[k] = x at hc HX
        generalize C[k - 1] = y at hc2 HX
        have hk0 : decide (0 < k) = true := by simp; omega
        clear hh
        by_cases h1 : x < 0
        · have HZ : Hid (rowB ar C = false) := HN.out (by rw [HX.out]; simp; omega)
          clear HX HY HN
          go_wp2
          go_quiet (fail)
          go_wp2
          go_ret
          exact ⟨by simp [HZ.out], _, World.drewN_drewN _ _ _⟩
        · have h1' : decide (x < 0) = false := decide_eq_false h1
          by_cases h2 : (ar : Int) ≤ x
          · have HZ : Hid (rowB ar C = false) := HN.out (by rw [HX.out]; simp; omega)
            clear HX HY HN h1
            go_wp2
            go_quiet (fail)
            go_wp2
            go_ret
            exact ⟨by simp [HZ.out], _, World.drewN_drewN _ _ _⟩
          · have h2' : decide ((ar : Int) ≤ x) = false := decide_eq_false h2
            by_cases h3 : x ≤ y
            · have HZ : Hid (rowB ar C = false) := HN.out (by rw [HX.out]; simp; omega)
              clear HX HY HN h1 h2
              go_wp2
              go_quiet (fail)
              go_wp2
              go_ret
              exact ⟨by simp [HZ.out], _, World.drewN_drewN _ _ _⟩
            · have HZ : Hid (∀ j, j < k + 1 → colOk ar C j = true) := HY.out (by rw [HX.out]; simp; omega)
              have h3' : decide (x ≤ y) = false := decide_eq_false h3
              clear HX HY HN h1 h2 h3
              go_wp2
              go_quiet (fail)
              go_wp2
              go_roundw
              case rel => exact ⟨k + 1, by omega, by go_num, HZ.out, _, rfl⟩
              case measure => simp [intOf]; omega
    · have hkb : ¬ (k : Int) < (C.length : Int) := by omega
      have HZ : Hid (rowB ar C = true) := (rowB_iff ar C).2 (fun j hj => hh j (by omega))
      clear hh
      go_wp2
      go_ret
      exact ⟨by simp [HZ.out], n, rfl⟩
end
end Go.Proofs.Ytnhmjheipfopoaa.L
