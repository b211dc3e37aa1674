/- Heaps: New; a heap that lies behind a world. -/
import Derived.Test.YtnmaldgmlkcliaaHFH
namespace Go.Proofs.Ytnmaldgmlkcliaa.HH
open Go.RowKit Go.Maps Go.Shelf Go.Sort Go.Proofs.Ytnmaldgmlkcliaa

theorem new_any (xb : Nat) (w : World) : Calls Try.prog 22 #[headV xb] w fun e w' => e = .returned (.pointer (some ⟨w.heap.size, 0, none⟩)) ∧ w' = w.alloc (.cells #[headV xb, .slice none 0 0, .int .i64 0] 72) := by
  unfold headV
  go_enter Try.func22, Try.ntmps22
  go_wp2
  go_ret
  exact ⟨rfl, rfl⟩
theorem new_hp (xb : Nat) (w : World) (h : w.cell? ⟨xb, 0, none⟩ = some (.func (.func 9) #[] #[])) : Hp (w.alloc (.cells #[headV xb, .slice none 0 0, .int .i64 0] 72)) w.heap.size (headV xb) (.slice none 0 0) 0 [] :=
  ⟨heap_alloc_new _ _, .inl ⟨rfl, rfl⟩, by simp [Value.ownBlock], xb, rfl, (Stay.new _ _).cell h, (fun _ he => by cases he), World.block_lt_of_cell? w _ h, (fun k hk => by simp [Value.ownBlock] at hk)⟩

/-- Behind B a heap lies, in memory that B did not have. -/
structure Held (cf : (Hd) → (Hd) → Int) (B w : World) (hb : Nat) (fv v : Value) (turns : Nat) (came : List E) : Prop where
  stay : Stay B w
  hp : Hp w hb fv v turns came
  heap : IsHeap (ahd cf) came
  far : ∀ k, foot hb v k → B.heap.size ≤ k

section
variable {B w : World} {hb turns : Nat} {fv v : Value} {came : List E} {cf : (Hd) → (Hd) → Int}
theorem Held.go {w' : World} (h : Held cf B w hb fv v turns came) (hs : Stay w w') : Held cf B w' hb fv v turns came := ⟨h.stay.trans hs, h.hp.stay hs, h.heap, h.far⟩
theorem held_new (xb : Nat) (w : World) (h : w.cell? ⟨xb, 0, none⟩ = some (.func (.func 9) #[] #[])) : Held cf w (w.alloc (.cells #[headV xb, .slice none 0 0, .int .i64 0] 72)) w.heap.size (headV xb) (.slice none 0 0) 0 [] :=
  ⟨Stay.new _ _, new_hp xb w h, fun k x y _ hx => by simp at hx, fun k hk => by rcases hk with rfl | hk; exact Nat.le_refl _; simp [Value.ownBlock] at hk⟩
theorem Held.push (hf : Fv fv cf) (h : Held cf B w hb fv v turns came) (x : Hd) (hin : ∃ xb, fv = headV xb ∧ x.In w xb) (hsz : (came.length + 1) * 40 ≤ 140737488355328) (htn : turns ≤ 140737488355328) :
    Calls Try.prog 41 #[.pointer (some ⟨hb, 0, none⟩), .agg #[.slice x.a x.n x.c, .int .i64 (x.i : Int)]] w fun e w' => e = .returned (.tuple #[]) ∧ ∃ v' came', came'.Perm (came ++ [(x, turns)]) ∧ Held cf B w' hb fv v' (turns + 1) came' :=
  (push_any hf h.hp h.heap x hin hsz htn).mono fun _ _ ⟨he, v', came', hp, hh, hH, hT, hF⟩ => ⟨he, v', came', hp, hT.stay h.stay (fun k hk hf => by have := h.far k hf; omega), hH, hh, fun k hk => by
    rcases hF k hk with h1 | h1
    · exact h.far k h1
    · exact Nat.le_trans h.stay.size h1⟩
theorem Held.pop (hf : Fv fv cf) (h : Held cf B w hb fv v turns came) (e : E) (he : came[0]? = some e) (hsz : came.length ≤ 1152921504606846976) :
    Calls Try.prog 27 #[.pointer (some ⟨hb, 0, none⟩)] w fun e' w' => e' = .returned (.tuple #[.agg #[.slice e.1.a e.1.n e.1.c, .int .i64 (e.1.i : Int)], .bool true]) ∧ ∃ v' came', (e :: came').Perm came ∧ Held cf B w' hb fv v' turns came' :=
  (pop_some hf h.hp h.heap e he hsz).mono fun _ _ ⟨he, v', came', hp, hh, hH, hT, hF⟩ => ⟨he, v', came', hp, hT.stay h.stay (fun k hk hf => by have := h.far k hf; omega), hH, hh, fun k hk => h.far k (hF k hk)⟩
end
end Go.Proofs.Ytnmaldgmlkcliaa.HH
