/- Lists of records in memory: each of n cells. No walk here. -/
import Derived.Test.YtdnophgcdnghkaaA
import Derived.Maps.AppendAt
import Derived.Laws.OwnMore
namespace Go.Proofs.Ytdnophgcdnghkaa
open Go.RowKit Go.Maps

/-- A builtin append whose run is known. -/
theorem wpList_append_run {P : Program} {ops : Array Oper} {rest : List Oper} {o : Oper} {a : Act} {w : World} {Q : Exit → Act → World → Prop} (hgd : o.guard = none) (s x : Operand) (t u : TypeId)
    (ho : o.op = .call { callee := .builtin .append, args := #[s, x], argTypes := #[t, u] }) (v z : Value) (hs : a.eval s = v) (hx : a.eval x = z) {v' : Value} {w' : World}
    (hr : (Builtin.append_ #[t, u] o.type #[v, z]).run P w = .ok v' w') (h : wpList P ops Q rest (a.put o.dst v') w') : wpList P ops Q (o :: rest) a w := by
  refine wpList_plain hgd fun K hK => ?_
  unfold Oper.wp execOp
  simp only [ho, resolve, invoke, builtin, Sem.run_bind, Sem.run_pure, Result.andThen_ok, List.map_toArray, List.map_cons, List.map_nil, hs, hx, hr]
  exact hK _ _ h

/-- Each record has n cells. -/
structure EncOk {α : Type} (n : Nat) (enc : α → List Value) : Prop where
  len : ∀ x, (enc x).length = n
  one : ∀ x, ∀ u ∈ enc x, u.oneCell' = true
  pos : 0 < n
section
variable {α : Type} {n : Nat} {enc : α → List Value} {w w' : World} {a : Option Addr} {b off base : Nat} {xs ys : List α} {t : TypeId} {v : Value}
def cellsR (enc : α → List Value) (xs : List α) : List Value := xs.flatMap enc
/-- The slice at a holds the records xs. -/
def RecS (n : Nat) (enc : α → List Value) (w : World) (a : Option Addr) (b off : Nat) (xs : List α) : Prop :=
  (0 < xs.length → a = some ⟨b, off, none⟩) ∧ ∀ j (h : j < xs.length) i v, (enc xs[j])[i]? = some v → w.cell? ⟨b, off + j * n + i, none⟩ = some v
/-- A list of records in memory of its own, at base or behind. -/
def OwnR (t : TypeId) (n : Nat) (enc : α → List Value) (base : Nat) (w : World) (v : Value) (xs : List α) : Prop := w.ownsRow base t n v xs.length (cellsR enc xs)

theorem cellsR_len (he : EncOk n enc) (xs : List α) : (cellsR enc xs).length = xs.length * n := by
  induction xs with
  | nil => simp [cellsR]
  | cons x xs ih =>
    rw [cellsR, List.flatMap_cons, List.length_append, he.len, show (xs.flatMap enc).length = _ from ih, List.length_cons, Nat.add_mul]
    omega
theorem cellsR_app (xs ys : List α) : cellsR enc (xs ++ ys) = cellsR enc xs ++ cellsR enc ys := by simp [cellsR]
theorem cellsR_one (he : EncOk n enc) (xs : List α) : ∀ u ∈ cellsR enc xs, u.oneCell' = true := by
  intro u hu
  simp only [cellsR, List.mem_flatMap] at hu
  obtain ⟨x, _, h⟩ := hu
  exact he.one x u h
theorem cellsR_at (he : EncOk n enc) : ∀ (xs : List α) (j : Nat) (h : j < xs.length) (i : Nat), i < n → (cellsR enc xs)[j * n + i]? = (enc xs[j])[i]?
  | [], _, h, _, _ => absurd h (Nat.not_lt_zero _)
  | x :: xs, 0, _, i, hi => by
    rw [cellsR, List.flatMap_cons, Nat.zero_mul, Nat.zero_add, List.getElem?_append_left (by rw [he.len]; exact hi)]
    rfl
  | x :: xs, j + 1, h, i, hi => by
    rw [cellsR, List.flatMap_cons, List.getElem?_append_right (by rw [he.len, Nat.add_mul]; omega), he.len, show (j + 1) * n + i - n = j * n + i by rw [Nat.add_mul]; omega]
    exact cellsR_at he xs j (by simpa using h) i hi
theorem src_r (he : EncOk n enc) (h : RecS n enc w a b off xs) : ∀ ad, a = some ad → ∀ (j : Nat) (v : Value), (cellsR enc xs)[j]? = some v → w.cell? (ad.add j) = some v := by
  intro ad ha j v hv
  have hl := (List.getElem?_eq_some_iff.1 hv).1
  rw [cellsR_len he] at hl
  have hq : j / n < xs.length := (Nat.div_lt_iff_lt_mul he.pos).2 hl
  have h0 := h.1 (Nat.lt_of_le_of_lt (Nat.zero_le _) hq)
  rw [ha] at h0
  simp only [Option.some.injEq] at h0
  subst h0
  have hm : j % n < n := Nat.mod_lt _ he.pos
  have hd : j / n * n + j % n = j := by rw [Nat.mul_comm]; exact Nat.div_add_mod j n
  have hx := cellsR_at he xs (j / n) hq (j % n) hm
  rw [hd, hv] at hx
  have := h.2 (j / n) hq (j % n) v hx.symm
  rw [add_at, show off + j = off + j / n * n + j % n by omega]
  exact this
theorem RecS.stay (h : RecS n enc w a b off xs) (hs : Stay w w') : RecS n enc w' a b off xs := ⟨h.1, fun j hj i v hv => hs.cell (h.2 j hj i v hv)⟩
theorem RecS.nil (w : World) (a : Option Addr) (b off : Nat) : RecS n enc w a b off [] := ⟨fun h => absurd h (Nat.lt_irrefl _), fun _ h => absurd h (Nat.not_lt_zero _)⟩
theorem RecS.left (h : RecS n enc w a b off (xs ++ ys)) : RecS n enc w a b off xs :=
  ⟨fun h0 => h.1 (by rw [List.length_append]; omega), fun j hj i v hv => h.2 j (by rw [List.length_append]; omega) i v (by rw [List.getElem_append_left hj]; exact hv)⟩
theorem recs_lit (he : EncOk n enc) (w : World) (xs : List α) (t : TypeId) : RecS n enc (w.alloc (.cells (cellsR enc xs).toArray t)) (some ⟨w.heap.size, 0, none⟩) w.heap.size 0 xs := by
  refine ⟨fun _ => rfl, fun j hj i v hv => ?_⟩
  have hi : i < n := by have := (List.getElem?_eq_some_iff.1 hv).1; rwa [he.len] at this
  have h := cellsR_at he xs j hj i hi
  have h0 := new_cells w (cellsR enc xs) t _ _ (h.trans hv)
  rwa [add_at, Nat.zero_add, ← Nat.zero_add (j * n)] at h0
theorem OwnR.nil : OwnR t n enc base w (.slice none 0 0) ([] : List α) := World.ownsRow_nil _ _ _ _
theorem OwnR.stay (h : OwnR t n enc base w v xs) (hs : Stay w w') : OwnR t n enc base w' v xs := by
  refine ⟨h.1, ?_⟩
  rcases h.2 with hx | ⟨b, c, cur, hv, hb, hh, rest⟩
  · exact .inl hx
  · exact .inr ⟨b, c, cur, hv, hb, (hs.block b (Array.getElem?_eq_some_iff.1 hh).1).trans hh, rest⟩
theorem OwnR.alloc (h : OwnR t n enc base w v xs) (o : Obj) : OwnR t n enc base (w.alloc o) v xs := h.stay (Stay.new _ _)
theorem OwnR.lt (h : OwnR t n enc base w v xs) (k : Nat) (e : v.ownBlock = some k) : base ≤ k ∧ k < w.heap.size := World.ownsRow.lt h k e
/-- What such a value is. -/
theorem OwnR.form (he : EncOk n enc) (h : OwnR t n enc base w v xs) : ∃ a b c, v = .slice a xs.length c ∧ RecS n enc w a b 0 xs ∧ (a = none → c = 0 ∧ xs = []) ∧ (0 < xs.length → a = some ⟨b, 0, none⟩) ∧ xs.length ≤ c ∧ c ≤ maxLen := by
  rcases h.2 with ⟨hv, h0⟩ | ⟨g, c, cur, hv, hb, hh, h1, h2, h3, h4⟩
  · have h0 : xs = [] := List.eq_nil_of_length_eq_zero h0
    subst h0
    exact ⟨none, 0, 0, hv, RecS.nil _ _ _ _, fun _ => ⟨rfl, rfl⟩, fun h => absurd h (Nat.lt_irrefl _), Nat.le_refl _, Nat.zero_le _⟩
  · refine ⟨some ⟨g, 0, none⟩, g, c, hv, ⟨fun _ => rfl, fun j hj i v hv => ?_⟩, (fun h => nomatch h), fun _ => rfl, h1, h2⟩
    have hi : i < n := by have := (List.getElem?_eq_some_iff.1 hv).1; rwa [he.len] at this
    have hlt : j * n + i < xs.length * n := by
      have h5 : (j + 1) * n ≤ xs.length * n := Nat.mul_le_mul_right n hj
      rw [Nat.add_mul, Nat.one_mul] at h5
      omega
    have h6 := cellsR_at he xs j hj i hi
    rw [← h4, List.getElem?_take_of_lt hlt, hv] at h6
    rw [Nat.zero_add]
    simp only [World.cell?, hh]
    simpa using h6
/-- An append of records to records of one's own. -/
theorem append_recs {P : Program} (he : EncOk n enc) {s ty : TypeId} (hu : P.underlying s = some (.slice t)) {z : Value} {bytes : Nat} (hinfo : (P.info? t).map (fun i => (i.zero, i.size, i.bytes)) = some (some z, n, bytes)) (hz : z.cells.size = n)
    (hown : OwnR t n enc base w v xs) {c : Nat} (hS : RecS n enc w a b off ys) (ha : a = none → c = 0 ∧ ys = []) (hm : xs.length + ys.length ≤ maxLen) (hb : (xs.length + ys.length) * bytes ≤ 140737488355328) (hbase : base ≤ w.heap.size) :
    ∃ v' w', (Builtin.append_ #[s, s] ty #[v, .slice a ys.length c]).run P w = .ok v' w' ∧ OwnR t n enc base w' v' (xs ++ ys) ∧ w.grownBy w' v.ownBlock ∧ (v' = .slice none 0 0 → v = .slice none 0 0) ∧ (v'.ownBlock = v.ownBlock ∨ v'.ownBlock = some w.heap.size) := by
  obtain ⟨i0, hi, hz0, hz1, hz2⟩ := info_parts hinfo
  cases a with
  | none =>
    obtain ⟨rfl, rfl⟩ := ha rfl
    exact ⟨v, w, run_append_owned_none (P := P) w base s ty t i0 n hu hi v xs.length (cellsR enc xs) hown, by rw [List.append_nil]; exact hown, ⟨rfl, rfl, rfl, Nat.le_refl _, fun _ _ _ => rfl⟩, id, .inl rfl⟩
  | some ad =>
    obtain ⟨v1, w1, hr, h2, h3, h4, h5⟩ := run_append_own_at (P := P) w base s ty t i0 z n bytes hu hi hz0 hz1 hz2 hz he.pos v xs.length (cellsR enc xs) hown ad ys.length c (cellsR enc ys) (cellsR_len he ys) (fun j u h => src_r he hS ad rfl j u h) (cellsR_one he ys) hm hb hbase
    refine ⟨v1, w1, hr, ?_, h3, fun e => (h4.1 e).1, h5⟩
    unfold OwnR
    rw [List.length_append, cellsR_app]
    exact h2
theorem ownR_grow {W W' : World} (hs : Stay w W) (hb : w.heap.size ≤ base) (h : OwnR t n enc base W v xs) (hg : W.grownBy W' v.ownBlock) : Stay w W' :=
  hs.grown hg hs.size (fun k e => Nat.le_trans hb (h.lt k e).1)
end
end Go.Proofs.Ytdnophgcdnghkaa
