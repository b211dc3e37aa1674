/- Sets of names: maps of texts to nothing. What is put for the first time. -/
import Derived.Test.YtnmeljenldadfaaQD
import Derived.MapKept
import Derived.Maps.OwnSet
namespace Go.Proofs.Ytnmeljenldadfaa
open Go.RowKit Go.Maps Go.Shelf
attribute [local go_sem] Oper.semAt_some

theorem lawfulB : LawfulBEq ByteArray := {
  eq_of_beq := fun h => (MapKept.bytes_beq _ _).1 h
  rfl := (MapKept.bytes_beq _ _).2 rfl }
instance : LawfulBEq ByteArray := lawfulB
def keyB (s : ByteArray) : Lit := .string s.data.toList
theorem keyB_inj {s t : ByteArray} (h : keyB s = keyB t) : s = t := by
  unfold keyB at h
  injection h with h
  exact ByteArray.ext (Array.ext' h)
theorem lawS : Keyed Try.prog 9 := string_keyed Try.underlying9
theorem keyS {s : ByteArray} (hs : s.size ≤ 1048576) : keyOf Try.prog 9 (.string s) = some (keyB s) := WideMaps.keyOf_string_mk Try.underlying9 (by unfold maxLen; omega)

/-- Is a name among these? -/
def inB (us : List ByteArray) (s : ByteArray) : Bool := us.contains s
theorem inB_iff (us : List ByteArray) (s : ByteArray) : inB us s = true ↔ s ∈ us := by simp [inB]
theorem inB_no (us : List ByteArray) (s : ByteArray) : inB us s = false ↔ s ∉ us := by rw [← inB_iff]; simp
theorem inB_snoc (us : List ByteArray) (s t : ByteArray) : inB (us ++ [s]) t = (inB us t || t == s) := by rw [Bool.eq_iff_iff]; simp [inB]
/-- At bm lies a set into which the names us have been put. -/
def SetM (w : World) (bm : Nat) (us : List ByteArray) : Prop :=
  ∃ D : DataW Unit, w.ownsMap Try.prog 9 unitElem bm us.length D ∧ ∀ s, has D (keyB s) = inB us s
theorem SetM.keep {w w' : World} {bm : Nat} {us : List ByteArray} (h : SetM w bm us) (hb : w'.heap[bm]? = w.heap[bm]?) : SetM w' bm us := by
  obtain ⟨D, ⟨es, clock, h1, h2⟩, h3⟩ := h
  exact ⟨D, ⟨es, clock, hb.trans h1, h2⟩, h3⟩
theorem SetM.lt {w : World} {bm : Nat} {us : List ByteArray} (h : SetM w bm us) : bm < w.heap.size := by
  obtain ⟨D, h1, _⟩ := h; exact h1.lt
theorem SetM.obj {w : World} {bm : Nat} {us : List ByteArray} (h : SetM w bm us) : ∃ o, w.heap[bm]? = some o ∧ o.isCells = false := by
  obtain ⟨D, ⟨es, clock, h1, _⟩, _⟩ := h
  exact ⟨_, h1, rfl⟩
theorem setM_new (w : World) : SetM (w.alloc (.map #[] 0)) w.heap.size [] := ⟨_, w.ownsMap_made _ _ _, fun s => by simp [has, inB]⟩
theorem run_mapS (W : World) : (Instr.makeMap 90 none).run Try.prog W = .ok (.map (some W.heap.size)) (W.alloc (.map #[] 0)) := by kernel_rfl

set_option maxRecDepth 100000 in
theorem put_any (w : World) (bm : Nat) (us : List ByteArray) (s : ByteArray) (h : SetM w bm us) (hs : s.size ≤ 1048576) (hn : us.length < 1099511627776000) :
    Calls Try.prog 54 #[.map (some bm), .string s] w fun e w' => e = .returned (.bool (!inB us s)) ∧ SetM w' bm (us ++ [s]) ∧ w.grownBy w' (some bm) := by
  obtain ⟨D, hD, hh⟩ := h
  have hkey := keyS hs
  have hti : Tidy D := hD.tidy lawS
  have hsz : size (D.put (keyB s) (.agg [])) = if has D (keyB s) then size D else size D + 1 := size_put hti _
  have HF : Hid (∀ t, has (D.put (keyB s) (.agg [])) (keyB t) = inB (us ++ [s]) t) := fun t => by
    by_cases e : t = s
    · subst e
      rw [has_put_same hti.isMap (by simp [keyB, WideAt.IsKeyLit]), inB_snoc]
      simp
    · rw [has_put_other (fun h => e (keyB_inj h)), hh t, inB_snoc]
      simp [e]
  have Hc : Hid (has D (keyB s) = inB us s) := hh s
  have hn' : us.length < maxLen := by unfold maxLen; omega
  clear hh hti
  go_enter Try.func54, Try.ntmps54
  go_wp2_with (first | (at_len; refine wpList_len_own _ rfl _ _ rfl 9 110 Try.underlying90 _ bm _ D rfl hD ?_) | (at_mapUpdate; refine wpList_mapUpdate_own _ rfl _ _ _ _ rfl 9 110 lawS Try.underlying90 _ bm _ D rfl hD hn' _ _ _ rfl rfl hkey _ [] unitElem_mk ?_; intro w1 hD1 hg1) | (at_len; refine wpList_len_own _ rfl _ _ rfl 9 110 Try.underlying90 _ bm _ _ rfl hD1 ?_))
  · have hc := h
    go_ret
    refine ⟨?_, ⟨_, by simpa using hD1, HF.out⟩, hg1⟩
    rw [← Hc.out, hc]
    rfl
  · have hc := h
    go_ret
    refine ⟨?_, ⟨_, by simpa using hD1, HF.out⟩, hg1⟩
    rw [← Hc.out, Bool.not_eq_true _ |>.mp hc]
    rfl

/-- What is chosen out of a list, one by one, by what stands ahead. -/
def selF {α : Type} (c : List α → α → Bool) : List α → List α → List α
  | _, [] => []
  | pre, x :: xs => (if c pre x then [x] else []) ++ selF c (pre ++ [x]) xs
def sel {α : Type} (c : List α → α → Bool) (xs : List α) : List α := selF c [] xs
theorem selF_app {α : Type} (c : List α → α → Bool) : ∀ (pre xs ys : List α), selF c pre (xs ++ ys) = selF c pre xs ++ selF c (pre ++ xs) ys
  | pre, [], ys => by simp [selF]
  | pre, x :: xs, ys => by simp only [List.cons_append, selF]; rw [selF_app c (pre ++ [x]) xs ys]; simp
theorem sel_snoc {α : Type} (c : List α → α → Bool) (xs : List α) (x : α) : sel c (xs ++ [x]) = sel c xs ++ (if c xs x then [x] else []) := by
  unfold sel; rw [selF_app]; simp [selF]
theorem sel_take {α : Type} (c : List α → α → Bool) {xs : List α} {k : Nat} (h : k < xs.length) : sel c (xs.take (k + 1)) = sel c (xs.take k) ++ (if c (xs.take k) xs[k] then [xs[k]] else []) := by
  rw [List.take_add_one, List.getElem?_eq_getElem h, Option.toList_some, sel_snoc]
theorem sel_at {α : Type} (c : List α → α → Bool) {xs : List α} {k : Nat} (h : k < xs.length) (hc : c (xs.take k) xs[k] = true) : ∃ hk : (sel c (xs.take k)).length < (sel c xs).length, (sel c xs)[(sel c (xs.take k)).length] = xs[k] := by
  have e : sel c xs = sel c (xs.take k) ++ (xs[k] :: selF c (xs.take (k + 1)) (xs.drop (k + 1))) := by
    have h1 := sel_take c h
    rw [if_pos hc] at h1
    have h2 := selF_app c [] (xs.take (k + 1)) (xs.drop (k + 1))
    rw [List.take_append_drop, List.nil_append] at h2
    show selF c [] xs = _
    rw [h2, show selF c [] (xs.take (k + 1)) = _ from h1]
    simp
  have hk : (sel c (xs.take k)).length < (sel c xs).length := by rw [e]; simp
  refine ⟨hk, ?_⟩
  rw [List.getElem_of_eq e]
  simp
/-- A name that did not stand ahead. -/
def newC (pre : List (Int × ByteArray)) (p : Int × ByteArray) : Bool := !inB (pre.map (·.2)) p.2
end Go.Proofs.Ytnmeljenldadfaa
