/- Heaps: New; a heap that lies behind a world. -/
import Derived.Test.YtnmaldgmlkcliaaHFI
namespace Go.Proofs.Ytnmaldgmlkcliaa.HI
open Go.RowKit Go.Maps Go.Shelf Go.Sort Go.Proofs.Ytnmaldgmlkcliaa

theorem new_any (g : Nat) (w : World) : Calls Try.prog 30 #[.func (.func g) #[] #[]] w fun e w' => e = .returned (.pointer (some ⟨w.heap.size, 0, none⟩)) ∧ w' = w.alloc (.cells #[.func (.func g) #[] #[], .slice none 0 0, .int .i64 0] 80) := by
  go_enter Try.func30, Try.ntmps30
  go_wp2
  go_ret
  exact ⟨rfl, rfl⟩
theorem new_hp (fv : Value) (w : World) : Hp (w.alloc (.cells #[fv, .slice none 0 0, .int .i64 0] 80)) w.heap.size fv (.slice none 0 0) 0 [] :=
  ⟨heap_alloc_new _ _, .inl ⟨rfl, rfl⟩, by simp [Value.ownBlock]⟩

/-- Behind B a heap lies, in memory that B did not have. -/
structure Held (cf : (Int) → (Int) → Int) (B w : World) (hb : Nat) (fv v : Value) (turns : Nat) (came : List E) : Prop where
  stay : Stay B w
  hp : Hp w hb fv v turns came
  heap : IsHeap (ahd cf) came
  far : ∀ k, foot hb v k → B.heap.size ≤ k

section
variable {B w : World} {hb turns : Nat} {fv v : Value} {came : List E} {cf : (Int) → (Int) → Int}
theorem Held.go {w' : World} (h : Held cf B w hb fv v turns came) (hs : Stay w w') : Held cf B w' hb fv v turns came := ⟨h.stay.trans hs, h.hp.stay hs, h.heap, h.far⟩
theorem held_new (fv : Value) (w : World) : Held cf w (w.alloc (.cells #[fv, .slice none 0 0, .int .i64 0] 80)) w.heap.size fv (.slice none 0 0) 0 [] :=
  ⟨Stay.new _ _, new_hp fv w, fun k x y _ hx => by simp at hx, fun k hk => by rcases hk with rfl | hk; exact Nat.le_refl _; simp [Value.ownBlock] at hk⟩
theorem Held.push (hf : Fv fv cf) (h : Held cf B w hb fv v turns came) (x : Int) (hsz : (came.length + 1) * 16 ≤ 140737488355328) (htn : turns ≤ 140737488355328) :
    Calls Try.prog 31 #[.pointer (some ⟨hb, 0, none⟩), .int .i64 x] w fun e w' => e = .returned (.tuple #[]) ∧ ∃ v' came', came'.Perm (came ++ [(x, turns)]) ∧ Held cf B w' hb fv v' (turns + 1) came' :=
  (push_any hf h.hp h.heap x hsz htn).mono fun _ _ ⟨he, v', came', hp, hh, hH, hT, hF⟩ => ⟨he, v', came', hp, hT.stay h.stay (fun k hk hf => by have := h.far k hf; omega), hH, hh, fun k hk => by
    rcases hF k hk with h1 | h1
    · exact h.far k h1
    · exact Nat.le_trans h.stay.size h1⟩
theorem Held.pop (hf : Fv fv cf) (h : Held cf B w hb fv v turns came) (e : E) (he : came[0]? = some e) (hsz : came.length ≤ 1152921504606846976) :
    Calls Try.prog 32 #[.pointer (some ⟨hb, 0, none⟩)] w fun e' w' => e' = .returned (.tuple #[.int .i64 e.1, .bool true]) ∧ ∃ v' came', (e :: came').Perm came ∧ Held cf B w' hb fv v' turns came' :=
  (pop_some hf h.hp h.heap e he hsz).mono fun _ _ ⟨he, v', came', hp, hh, hH, hT, hF⟩ => ⟨he, v', came', hp, hT.stay h.stay (fun k hk hf => by have := h.far k hf; omega), hH, hh, fun k hk => h.far k (hF k hk)⟩
end
end Go.Proofs.Ytnmaldgmlkcliaa.HI
