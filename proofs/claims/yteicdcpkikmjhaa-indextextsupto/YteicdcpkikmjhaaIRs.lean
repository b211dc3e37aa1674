/- New, Get, Place, Size, Probes. -/
import Derived.Test.YteicdcpkikmjhaaIQs
namespace Go.Proofs.Yteicdcpkikmjhaa.S
open Go.RowKit Go.Maps Go.Proofs.Yteicdcpkikmjhaa

theorem eql_h (lb : Array Value) (w : World) : (binOp .eql 67 (.func (.func 25) #[] lb) .nilFunc).run Try.prog w = .ok (.bool false) w := by kernel_rfl
theorem eql_s (lb : Array Value) (w : World) : (binOp .eql 68 (.func (.func 26) #[] lb) .nilFunc).run Try.prog w = .ok (.bool false) w := by kernel_rfl
theorem eql_hn (w : World) : (binOp .eql 67 .nilFunc .nilFunc).run Try.prog w = .ok (.bool true) w := by kernel_rfl
theorem eql_sn (w : World) : (binOp .eql 68 .nilFunc .nilFunc).run Try.prog w = .ok (.bool true) w := by kernel_rfl

section
variable {w : World} {bt pb N len reach : Nat} {fp : Unit} {cv : Value} {came : List E} {places : List Nat}

theorem zero_spots : ((List.replicate 8 0).map fun (p : Nat) => Value.int .i64 (p : Int)).toArray = #[.int .i64 0, .int .i64 0, .int .i64 0, .int .i64 0, .int .i64 0, .int .i64 0, .int .i64 0, .int .i64 0] := rfl

theorem new_tab (hF : Fns w fp) : Tab ((w.alloc (.cells ((List.replicate 8 0).map fun (p : Nat) => Value.int .i64 (p : Int)).toArray 3)).alloc (.cells #[(.func (.func 25) #[] #[]), (.func (.func 26) #[] #[]), .slice none 0 0, .slice (some ⟨w.heap.size, 0, none⟩) 8 8, .int .i64 0, .int .i64 0] 104)) (w.heap.size + 1) fp (.slice none 0 0) w.heap.size 8 0 0 [] (List.replicate 8 0) := by
  have hs : (w.alloc (.cells ((List.replicate 8 0).map fun (p : Nat) => Value.int .i64 (p : Int)).toArray 3)).heap.size = w.heap.size + 1 := by simp
  have h1 := heap_new w (.cells ((List.replicate 8 0).map fun (p : Nat) => Value.int .i64 (p : Int)).toArray 3)
  have hT : Turn (fun _ => False) w (w.alloc (.cells ((List.replicate 8 0).map fun (p : Nat) => Value.int .i64 (p : Int)).toArray 3)) := Turn.of_stay (Stay.new w _)
  have hlt := fun k hk => hF.lt k hk
  generalize w.alloc (.cells ((List.replicate 8 0).map fun (p : Nat) => Value.int .i64 (p : Int)).toArray 3) = w1 at hs h1 hT ⊢
  refine ⟨?_, .inl ⟨rfl, rfl⟩, (Below.heap_alloc w1 _ w.heap.size (by omega)).trans h1, hF.turn (hT.trans (Turn.of_stay (Stay.new w1 _))) (fun _ _ e => e), ⟨3, rfl, by decide⟩, by decide, Lies.empty 8 _, rfl, rfl, by decide, by decide, ?_, ?_, ?_, ⟨by omega, by simp [Value.ownBlock], by simp [Value.ownBlock]⟩, by simp⟩
  · unfold Box
    rw [← hs]
    exact heap_new w1 _
  · intro t e he; simp at he
  · intro t e t' e' he; simp at he
  · intro k hk
    have := hlt k hk
    exact ⟨by omega, by omega, by simp [Value.ownBlock]⟩

set_option maxRecDepth 100000 in
theorem new_any (hF : Fns w fp) : Calls Try.prog 24 #[(.func (.func 25) #[] #[]), (.func (.func 26) #[] #[])] w fun e w' => e = .returned (.tuple #[.pointer (some ⟨w.heap.size + 1, 0, none⟩), .int .i64 0]) ∧ Tab w' (w.heap.size + 1) fp (.slice none 0 0) w.heap.size 8 0 0 [] (List.replicate 8 0) ∧ Stay w w' := by
  have HT : Hid (Tab _ (w.heap.size + 1) fp (.slice none 0 0) w.heap.size 8 0 0 [] (List.replicate 8 0)) := new_tab hF
  have hmk : (Instr.makeSlice 47 (.int .i64 8) (.int .i64 8)).run Try.prog w = _ := run_makeSpots 8 (by decide) w
  have HS : Hid (Stay w ((w.alloc (.cells ((List.replicate 8 0).map fun (p : Nat) => Value.int .i64 (p : Int)).toArray 3)).alloc (.cells #[(.func (.func 25) #[] #[]), (.func (.func 26) #[] #[]), .slice none 0 0, .slice (some ⟨w.heap.size, 0, none⟩) 8 8, .int .i64 0, .int .i64 0] 104))) := (Stay.new w _).alloc _
  generalize ((List.replicate 8 0).map fun (p : Nat) => Value.int .i64 (p : Int)).toArray = zs at hmk HT HS
  have h1 := eql_h
  have h2 := eql_s
  clear hF
  go_enter Try.func24, Try.ntmps24
  go_wp2
  go_ret2
  exact ⟨rfl, HT.out, HS.out⟩

theorem new_nil1 (sv : Value) : Calls Try.prog 24 #[.nilFunc, sv] w fun e w' => e = .returned (.tuple #[.pointer none, .int .i64 1]) ∧ w' = w := by
  have h1 := eql_hn
  go_enter Try.func24, Try.ntmps24
  go_wp2
  go_ret2
  exact ⟨rfl, rfl⟩

theorem new_nil2 (lb : Array Value) : Calls Try.prog 24 #[.func (.func 25) #[] lb, .nilFunc] w fun e w' => e = .returned (.tuple #[.pointer none, .int .i64 1]) ∧ w' = w := by
  have h1 := eql_h
  have h2 := eql_sn
  go_enter Try.func24, Try.ntmps24
  go_wp2
  go_ret2
  exact ⟨rfl, rfl⟩

end
end Go.Proofs.Yteicdcpkikmjhaa.S
