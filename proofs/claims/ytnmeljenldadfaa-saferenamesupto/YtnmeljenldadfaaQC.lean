/- The places of a rule's variables, one by one. -/
import Derived.Test.YtnmeljenldadfaaQB
namespace Go.Proofs.Ytnmeljenldadfaa
open Go.RowKit Go.Maps Go.Shelf
attribute [local go_sem] Oper.semAt_some

/-- A literal's terms. -/
def Li.terms (x : Li) : List Tm := if x.kind = 1 ∨ x.kind = 2 then x.atom.ts else if x.kind = 3 then [x.left, x.right] else []
theorem Li.terms_len (x : Li) : x.terms.length ≤ x.atom.ts.length + 2 := by
  unfold Li.terms
  split
  · omega
  · split <;> simp
/-- Places: a literal's number, a variable. -/
def placesB : Nat → List Li → List (Int × ByteArray)
  | _, [] => []
  | k, l :: ls => (varsT l.terms).map (fun s => ((k : Int), s)) ++ placesB (k + 1) ls
def placesR (x : Ru) : List (Int × ByteArray) := (varsT x.head.ts).map (fun s => (-1, s)) ++ placesB 0 x.body
theorem placesB_app : ∀ (k : Nat) (xs ys : List Li), placesB k (xs ++ ys) = placesB k xs ++ placesB (k + xs.length) ys
  | k, [], ys => by simp [placesB]
  | k, x :: xs, ys => by
    rw [List.cons_append, placesB, placesB, placesB_app (k + 1) xs ys, List.append_assoc, List.length_cons, show k + 1 + xs.length = k + (xs.length + 1) by omega]
theorem placesB_take {ls : List Li} {i : Nat} (h : i < ls.length) : placesB 0 (ls.take (i + 1)) = placesB 0 (ls.take i) ++ (varsT ls[i].terms).map (fun s => ((i : Int), s)) := by
  rw [List.take_add_one, List.getElem?_eq_getElem h, Option.toList_some, placesB_app, List.length_take, Nat.min_eq_left (by omega), Nat.zero_add]
  simp [placesB]
theorem placesB_split {ls : List Li} {i : Nat} (h : i < ls.length) : placesB 0 ls = placesB 0 (ls.take i) ++ (varsT ls[i].terms).map (fun s => ((i : Int), s)) ++ placesB (i + 1) (ls.drop (i + 1)) := by
  rw [← placesB_take h]
  have := placesB_app 0 (ls.take (i + 1)) (ls.drop (i + 1))
  rw [List.take_append_drop, List.length_take, Nat.min_eq_left (by omega), Nat.zero_add] at this
  exact this
def encIS (p : Int × ByteArray) : Array Value := #[.int .i64 p.1, .string p.2]

theorem tms_two (V : World) (lv rv : Bool) (lt rt : ByteArray) (t : TypeId) : TmsS (V.alloc (.cells #[.bool lv, .string lt, .bool rv, .string rt] t)) (some ⟨V.heap.size, 0, none⟩) V.heap.size 0 [⟨lv, lt⟩, ⟨rv, rt⟩] := by
  have h := fun j u hj => new_cells V [.bool lv, .string lt, .bool rv, .string rt] t j u hj
  simp only [add_at] at h
  refine ⟨fun _ => rfl, fun j hj => ?_⟩
  rcases j with _ | _ | j
  · exact ⟨h 0 _ rfl, h 1 _ rfl⟩
  · exact ⟨h 2 _ rfl, h 3 _ rfl⟩
  · exact absurd hj (by simp)
/-- Where a list of terms lies: below n, or new. -/
def TermsAt (x : Li) (w : World) (e : Ending) (w' : World) : Prop :=
  ∃ a b off c, e = .returned (.slice a x.terms.length c) ∧ TmsS w' a b off x.terms ∧ (0 < x.terms.length → b = x.atom.b ∧ 0 < x.atom.ts.length ∨ w.heap.size ≤ b ∧ b < w'.heap.size ∧ ∃ cs f, w'.heap[b]? = some (.cells cs 51 f)) ∧ Stay w w'
theorem terms_any (x : Li) (w : World) (hM : x.atom.In w) : Calls Try.prog 47 #[x.v] w (TermsAt x w) := by
  obtain ⟨kind, ⟨pred, a, b, off, cap, ts⟩, ⟨lv, lt⟩, ⟨rv, rt⟩⟩ := x
  unfold At.In at hM
  dsimp only [Li.v, At.sl] at *
  by_cases h1 : kind = 1
  · subst h1
    go_enter Try.func47, Try.ntmps47
    go_wp2
    go_ret
    exact ⟨a, b, off, cap, rfl, by simpa [Li.terms] using hM.stay (Stay.new _ _), fun h => .inl ⟨rfl, by simpa [Li.terms] using h⟩, Stay.new _ _⟩
  · by_cases h2 : kind = 2
    · subst h2
      go_enter Try.func47, Try.ntmps47
      go_wp2
      go_ret
      exact ⟨a, b, off, cap, rfl, by simpa [Li.terms] using hM.stay (Stay.new _ _), fun h => .inl ⟨rfl, by simpa [Li.terms] using h⟩, Stay.new _ _⟩
    · by_cases h3 : kind = 3
      · subst h3
        go_enter Try.func47, Try.ntmps47
        go_wp2
        go_ret
        refine ⟨_, w.heap.size + 1, 0, 2, rfl, ?_, fun _ => .inr ⟨by omega, by simp, #[.bool lv, .string lt, .bool rv, .string rt], (0, 0), ?_⟩, (Stay.new _ _).alloc _⟩
        · have := tms_two (w.alloc (.cells #[.int .i64 3, .string pred, .slice a ts.length cap, .bool lv, .string lt, .bool rv, .string rt] 53)) lv rv lt rt 51
          rw [World.size_alloc] at this
          exact this
        · have := heap_new (w.alloc (.cells #[.int .i64 3, .string pred, .slice a ts.length cap, .bool lv, .string lt, .bool rv, .string rt] 53)) (.cells #[.bool lv, .string lt, .bool rv, .string rt] 51)
          rw [World.size_alloc] at this
          exact this
      · have e1 : (kind == 1) = false := by simpa using h1
        have e2 : (kind == 2) = false := by simpa using h2
        have e3 : (kind == 3) = false := by simpa using h3
        go_enter Try.func47, Try.ntmps47
        go_wp2
        go_ret
        have ht : Li.terms ⟨kind, ⟨pred, a, b, off, cap, ts⟩, ⟨lv, lt⟩, ⟨rv, rt⟩⟩ = [] := by simp [Li.terms, h1, h2, h3]
        unfold TermsAt
        rw [ht]
        exact ⟨none, 0, 0, 0, rfl, TmsS.nil _ _ _ _, fun h => absurd h (Nat.lt_irrefl _), Stay.new _ _⟩
theorem standing_any (x : Ru) (w : World) : Calls Try.prog 34 #[x.v] w fun e w' => e = .returned (.func (.func 55) #[] #[.pointer (some ⟨w.heap.size, 0, none⟩)]) ∧ w' = w.alloc (.cells #[.string x.head.pred, x.head.sl, .slice x.a x.body.length x.cap] 27) := by
  unfold Ru.v At.sl
  go_enter Try.func34, Try.ntmps34
  go_wp2
  go_ret
  exact ⟨rfl, rfl⟩
end Go.Proofs.Ytnmeljenldadfaa
