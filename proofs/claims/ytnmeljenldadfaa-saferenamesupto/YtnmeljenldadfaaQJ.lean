/- Loose variables, plainly: how many places, how long the texts. -/
import Derived.Test.YtnmeljenldadfaaQI
namespace Go.Proofs.Ytnmeljenldadfaa
open Go.RowKit Go.Maps Go.Shelf

theorem selF_sub {α : Type} (c : List α → α → Bool) : ∀ (pre xs : List α), (selF c pre xs).Sublist xs
  | _, [] => List.Sublist.refl _
  | pre, x :: xs => by
    unfold selF
    split
    · exact (selF_sub c (pre ++ [x]) xs).cons_cons x
    · exact (selF_sub c (pre ++ [x]) xs).cons x
theorem sel_sub {α : Type} (c : List α → α → Bool) (xs : List α) : (sel c xs).Sublist xs := selF_sub c [] xs
theorem sel_mem {α : Type} {c : List α → α → Bool} {xs : List α} {x : α} (h : x ∈ sel c xs) : x ∈ xs := (sel_sub c xs).subset h
theorem sel_len {α : Type} (c : List α → α → Bool) (xs : List α) : (sel c xs).length ≤ xs.length := (sel_sub c xs).length_le

def Ru.shorts (x : Ru) : Prop := (∀ t ∈ x.head.ts, t.text.size ≤ 1048576) ∧ ∀ l ∈ x.body, (∀ t ∈ l.atom.ts, t.text.size ≤ 1048576) ∧ l.left.text.size ≤ 1048576 ∧ l.right.text.size ≤ 1048576
theorem varsT_mem {ts : List Tm} {s : ByteArray} (h : s ∈ varsT ts) : ∃ t ∈ ts, t.var = true ∧ t.text = s := by
  unfold varsT at h
  obtain ⟨t, ht, rfl⟩ := List.mem_map.1 h
  rw [List.mem_filter] at ht
  exact ⟨t, ht.1, ht.2, rfl⟩
theorem varsT_len (ts : List Tm) : (varsT ts).length ≤ ts.length := by
  unfold varsT; rw [List.length_map]; exact List.length_filter_le _ _
theorem terms_mem {l : Li} {t : Tm} (h : t ∈ l.terms) : t ∈ l.atom.ts ∨ t = l.left ∨ t = l.right := by
  unfold Li.terms at h
  split at h
  · exact .inl h
  · split at h
    · simp at h; exact .inr h
    · simp at h
theorem placesB_short {ls : List Li} (h : ∀ l ∈ ls, (∀ t ∈ l.atom.ts, t.text.size ≤ 1048576) ∧ l.left.text.size ≤ 1048576 ∧ l.right.text.size ≤ 1048576) : ∀ p ∈ placesB 0 ls, p.2.size ≤ 1048576 := by
  intro p hp
  obtain ⟨j, hj, -, hv⟩ := placesB_mem 0 ls p hp
  obtain ⟨t, ht, -, he⟩ := varsT_mem hv
  rw [← he]
  obtain ⟨h1, h2, h3⟩ := h _ (List.getElem_mem hj)
  rcases terms_mem ht with h | rfl | rfl
  · exact h1 t h
  · exact h2
  · exact h3
theorem placesR_short {x : Ru} (h : x.shorts) : ∀ p ∈ placesR x, p.2.size ≤ 1048576 := by
  intro p hp
  unfold placesR at hp
  rcases List.mem_append.1 hp with hp | hp
  · obtain ⟨s, hs, rfl⟩ := List.mem_map.1 hp
    obtain ⟨t, ht, -, rfl⟩ := varsT_mem hs
    exact h.1 t ht
  · exact placesB_short h.2 p hp
theorem placesB_len : ∀ (k : Nat) (ls : List Li), (∀ l ∈ ls, l.atom.ts.length ≤ 1048576) → (placesB k ls).length ≤ ls.length * 1048578
  | _, [], _ => by simp [placesB]
  | k, l :: ls, h => by
    have h1 := placesB_len (k + 1) ls (fun x hx => h x (List.mem_cons_of_mem _ hx))
    have h2 := varsT_len l.terms
    have h3 := Li.terms_len l
    have h4 := h l List.mem_cons_self
    simp only [placesB, List.length_append, List.length_map, List.length_cons]
    omega
theorem placesB_few {a : Option Addr} {b off cap : Nat} {ls : List Li} (h : (bodyRu a b off cap ls).small) : (placesB 0 ls).length ≤ 1099513724928 := by
  have h1 := placesB_len 0 ls h.2.2
  have h2 : ls.length ≤ 1048576 := h.2.1
  have := Nat.mul_le_mul_right 1048578 h2
  omega
theorem placesR_few {x : Ru} (h : x.small) : (placesR x).length ≤ 1099514773504 := by
  have h1 := placesB_len 0 x.body h.2.2
  have := Nat.mul_le_mul_right 1048578 h.2.1
  have h2 := varsT_len x.head.ts
  have h3 := h.1
  simp only [placesR, List.length_append, List.length_map]
  omega
theorem bodySmall {x : Ru} (h : x.small) : (bodyRu x.a x.b x.off x.cap x.body).small := ⟨by simp [bodyRu], h.2.1, h.2.2⟩
theorem bodyReads {x : Ru} {Hs : Nat → Prop} (h : x.reads Hs) : (bodyRu x.a x.b x.off x.cap x.body).reads Hs := ⟨fun h => absurd h (by simp [bodyRu]), h.2.1, h.2.2⟩
theorem placesB_wf {ls : List Li} (h : ls.length ≤ 1048576) : ∀ p ∈ placesB 0 ls, (Lit.int .i64 p.1).wf = true := by
  intro p hp
  obtain ⟨j, hj, h1, -⟩ := placesB_mem 0 ls p hp
  rw [h1]
  exact WalkArith.wf_i64 (by omega)
theorem bindersOf_ok (x : Ru) (w : World) (hM : x.In w) (hs : x.small) (hr : x.reads (fun i => i < w.heap.size)) (ht : x.shorts) : Calls Try.prog 36 #[.slice x.a x.body.length x.cap] w (Bnds x.body w) :=
  bindersOf_any x.body x.a x.b x.off x.cap w hM.2 (bodySmall hs) (bodyReads hr) (fun p hp => placesB_short ht.2 p (sel_mem hp)) (by have := placesB_few (bodySmall hs); have := sel_len (bindC x.body) (placesB 0 x.body); unfold bindP; omega) (fun p hp => placesB_wf hs.2.1 p (sel_mem hp))

/-- A place whose variable is not among these. -/
def looseC (bs : List (Int × ByteArray)) (_ : List (Int × ByteArray)) (p : Int × ByteArray) : Bool := !inB (namesP bs) p.2
/-- The loose variables of a rule, each with the literal in which it first stands. -/
def looseP (x : Ru) : List (Int × ByteArray) := sel (looseC (bindP x.body)) (sel newC (placesR x))
end Go.Proofs.Ytnmeljenldadfaa
