/- Two lists of one's own that grow; what is alike has one text. No walk here. -/
import Derived.Test.YtmbjghhicbbgmaaDoorCH
import Derived.Test.YtmbjghhicbbgmaaDoorCL
import Derived.Test.YtmbjghhicbbgmaaDoorCM
namespace Go.Proofs.YtmbjghhicbbgmaaDoor
open Go.RowKit Go.Maps

def encAt (x : At) : List Value := [.string x.pred, x.sl]
theorem encAtOk : EncOk 2 encAt := ⟨fun _ => rfl, fun _ u hu => by simp [encAt, At.sl] at hu; rcases hu with rfl | rfl <;> rfl, by decide⟩
theorem infoAt : (Tryd.prog.info? 24).map (fun i => (i.zero, i.size, i.bytes)) = some (some (.agg #[.string ⟨#[]⟩, .slice none 0 0]), 2, 40) := by kernel_rfl

theorem At.like_ok {x y : At} (h : x.like y) : x.ok = y.ok ∧ x.txt = y.txt := by
  unfold At.ok At.txt
  rw [h.1, h.2]
  exact ⟨rfl, rfl⟩
theorem Li.like_ok {x y : Li} (h : x.like y) : x.ok = y.ok ∧ x.txt = y.txt := by
  obtain ⟨h1, h2, h3, h4⟩ := h
  obtain ⟨g1, g2⟩ := At.like_ok h2
  unfold Li.ok Li.txt
  rw [h1, h3, h4, g1, g2, h2.1, h2.2]
  exact ⟨rfl, rfl⟩
theorem likes_map {β : Type} {f : Li → β} (hf : ∀ x y : Li, x.like y → f x = f y) : ∀ {cs ls : List Li}, likes cs ls → cs.map f = ls.map f := by
  intro cs ls h
  apply List.ext_getElem
  · simp [h.1]
  · intro j h1 h2
    simp only [List.getElem_map]
    exact hf _ _ (h.2 j (by simpa using h1) (by simpa using h2))
theorem likes_all {f : Li → Bool} (hf : ∀ x y : Li, x.like y → f x = f y) {cs ls : List Li} (h : likes cs ls) : cs.all f = ls.all f := by
  have := likes_map hf h
  rw [show cs.all f = (cs.map f).all id by simp [List.all_map], show ls.all f = (ls.map f).all id by simp [List.all_map], this]
theorem Ru.like_ok {x y : Ru} (h : x.like y) : x.ok = y.ok ∧ x.txt = y.txt := by
  obtain ⟨h1, h2⟩ := h
  obtain ⟨g1, g2⟩ := At.like_ok h1
  unfold Ru.ok Ru.txt
  rw [h2.1, g1, g2, likes_all (fun _ _ h => (Li.like_ok h).1) h2, likes_map (fun _ _ h => (Li.like_ok h).2) h2]
  exact ⟨rfl, rfl⟩

section
variable {α β : Type} {t1 t2 : TypeId} {n1 n2 : Nat} {e1 : α → List Value} {e2 : β → List Value} {W2 W Wa W' : World} {v8 v9 v' : Value} {az az' : List α} {tx tx' : List β}
theorem OwnR.far {t : TypeId} {n base : Nat} {enc : α → List Value} {v : Value} {xs : List α} {ob : Option Nat} (h : OwnR t n enc base W v xs) (hg : W.grownBy W' ob) (hn : ∀ g, v.ownBlock = some g → ob ≠ some g) : OwnR t n enc base W' v xs := by
  have hl := fun g e => (h.lt g e).2
  refine ⟨h.1, ?_⟩
  rcases h.2 with hx | ⟨b, c, cur, hv, hb, hh, rest⟩
  · exact .inl hx
  · exact .inr ⟨b, c, cur, hv, hb, (hg.block b (Array.getElem?_eq_some_iff.1 hh).1 (fun e => hn b (by rw [hv]; rfl) e.symm)).trans hh, rest⟩
/-- Two lists in memory of their own, behind W2. -/
structure Both (t1 t2 : TypeId) (n1 n2 : Nat) (e1 : α → List Value) (e2 : β → List Value) (W2 : World) (v8 v9 : Value) (az : List α) (tx : List β) (W : World) : Prop where
  stay : Stay W2 W
  one : OwnR t1 n1 e1 W2.heap.size W v8 az
  two : OwnR t2 n2 e2 W2.heap.size W v9 tx
  apart : ∀ g, v8.ownBlock = some g → v9.ownBlock ≠ some g
theorem Both.calls (h : Both t1 t2 n1 n2 e1 e2 W2 v8 v9 az tx W) (hs : Stay W W') : Both t1 t2 n1 n2 e1 e2 W2 v8 v9 az tx W' := ⟨h.stay.trans hs, h.one.stay hs, h.two.stay hs, h.apart⟩
theorem Both.swap (h : Both t1 t2 n1 n2 e1 e2 W2 v8 v9 az tx W) : Both t2 t1 n2 n1 e2 e1 W2 v9 v8 tx az W := ⟨h.stay, h.two, h.one, fun g e1 e2 => h.apart g e2 e1⟩
theorem Both.grow (h : Both t1 t2 n1 n2 e1 e2 W2 v8 v9 az tx W) (hs : Stay W Wa) (hown : OwnR t1 n1 e1 W2.heap.size W' v' az') (hg : Wa.grownBy W' v8.ownBlock) (hat : v'.ownBlock = v8.ownBlock ∨ v'.ownBlock = some Wa.heap.size) : Both t1 t2 n1 n2 e1 e2 W2 v' v9 az' tx W' := by
  refine ⟨ownR_grow (h.stay.trans hs) (Nat.le_refl _) (h.one.stay hs) hg, hown, (h.two.stay hs).far hg (fun g e1 e2 => h.apart g e2 e1), fun g e1 e2 => ?_⟩
  rcases hat with e | e
  · exact h.apart g (by rw [← e, e1]) e2
  · rw [e1] at e
    have := ((h.two.stay hs).lt g e2).2
    injection e with e
    omega
theorem Both.grow2 (h : Both t1 t2 n1 n2 e1 e2 W2 v8 v9 az tx W) (hs : Stay W Wa) (hown : OwnR t2 n2 e2 W2.heap.size W' v' tx') (hg : Wa.grownBy W' v9.ownBlock) (hat : v'.ownBlock = v9.ownBlock ∨ v'.ownBlock = some Wa.heap.size) : Both t1 t2 n1 n2 e1 e2 W2 v8 v' az tx' W' :=
  (h.swap.grow hs hown hg hat).swap
end
/-- How many terms atoms have together. -/
def sumT (az : List At) : Nat := (az.map (fun x => x.ts.length)).sum
theorem sumT_take (az : List At) (k : Nat) (h : k < az.length) : sumT (az.take (k + 1)) = sumT (az.take k) + az[k].ts.length := by
  unfold sumT
  rw [List.take_succ_eq_append_getElem h, List.map_append, List.sum_append]
  simp only [List.map_cons, List.map_nil, List.sum_cons, List.sum_nil, Nat.add_zero]
theorem sumT_le : ∀ (az : List At) (k : Nat), sumT (az.take k) ≤ sumT az
  | [], k => by simp [sumT]
  | x :: az, 0 => by simp [sumT]
  | x :: az, k + 1 => by
    have := sumT_le az k
    simp only [sumT, List.take_succ_cons, List.map_cons, List.sum_cons] at *
    omega
end Go.Proofs.YtmbjghhicbbgmaaDoor
