/- New, Get, Place, Size, Probes. -/
import Derived.Test.YtnhmjheipfopoaaIQl
namespace Go.Proofs.Ytnhmjheipfopoaa.L
open Go.RowKit Go.Maps Go.Proofs.Ytnhmjheipfopoaa

theorem eql_h (w : World) : (binOp .eql 102 hashV .nilFunc).run Try.prog w = .ok (.bool false) w := by kernel_rfl
theorem eql_s (w : World) : (binOp .eql 36 sameV .nilFunc).run Try.prog w = .ok (.bool false) w := by kernel_rfl

section
variable {w : World} {bt pb N len reach : Nat} {fp : List LK} {cv : Value} {came : List E} {places : List Nat}

theorem zero_spots : ((List.replicate 8 0).map fun (p : Nat) => Value.int .i64 (p : Int)).toArray = #[.int .i64 0, .int .i64 0, .int .i64 0, .int .i64 0, .int .i64 0, .int .i64 0, .int .i64 0, .int .i64 0] := rfl

theorem new_tab (hF : Fns w fp) : Tab ((w.alloc (.cells ((List.replicate 8 0).map fun (p : Nat) => Value.int .i64 (p : Int)).toArray 3)).alloc (.cells #[hashV, sameV, .slice none 0 0, .slice (some ⟨w.heap.size, 0, none⟩) 8 8, .int .i64 0, .int .i64 0] 116)) (w.heap.size + 1) fp (.slice none 0 0) w.heap.size 8 0 0 [] (List.replicate 8 0) := by
  have hs : (w.alloc (.cells ((List.replicate 8 0).map fun (p : Nat) => Value.int .i64 (p : Int)).toArray 3)).heap.size = w.heap.size + 1 := by simp
  have h1 := heap_new w (.cells ((List.replicate 8 0).map fun (p : Nat) => Value.int .i64 (p : Int)).toArray 3)
  have hT : Turn (fun _ => False) w (w.alloc (.cells ((List.replicate 8 0).map fun (p : Nat) => Value.int .i64 (p : Int)).toArray 3)) := Turn.of_stay (Stay.new w _)
  have hlt := fun k hk => hF.lt k hk
  generalize w.alloc (.cells ((List.replicate 8 0).map fun (p : Nat) => Value.int .i64 (p : Int)).toArray 3) = w1 at hs h1 hT ⊢
  refine ⟨?_, .inl ⟨rfl, rfl⟩, Spots.mk1 ((Below.heap_alloc w1 _ w.heap.size (by omega)).trans h1), hF.turn (hT.trans (Turn.of_stay (Stay.new w1 _))) (fun _ _ e => e), ⟨3, rfl, by decide⟩, by decide, Lies.empty 8 _, rfl, rfl, by decide, by decide, ?_, ?_, ?_, ⟨by omega, by simp [Value.ownBlock], by simp [Value.ownBlock]⟩, by simp⟩
  · refine ⟨8, ?_⟩
    rw [← hs]
    exact heap_new w1 _
  · intro t e he; simp at he
  · intro t e t' e' he; simp at he
  · intro k hk
    have := hlt k hk
    exact ⟨by omega, by omega, by simp [Value.ownBlock]⟩

set_option maxRecDepth 100000 in
theorem new_any (hF : Fns w fp) : Calls Try.prog 66 #[hashV, sameV] w fun e w' => e = .returned (.tuple #[.pointer (some ⟨w.heap.size + 1, 0, none⟩), .int .i64 0]) ∧ Tab w' (w.heap.size + 1) fp (.slice none 0 0) w.heap.size 8 0 0 [] (List.replicate 8 0) ∧ Stay w w' := by
  have HT : Hid (Tab _ (w.heap.size + 1) fp (.slice none 0 0) w.heap.size 8 0 0 [] (List.replicate 8 0)) := new_tab hF
  have hmk : (Instr.makeSlice 23 (.int .i64 8) (.int .i64 8)).run Try.prog w = _ := run_makeSpots 8 (by decide) w
  have HS : Hid (Stay w ((w.alloc (.cells ((List.replicate 8 0).map fun (p : Nat) => Value.int .i64 (p : Int)).toArray 3)).alloc (.cells #[hashV, sameV, .slice none 0 0, .slice (some ⟨w.heap.size, 0, none⟩) 8 8, .int .i64 0, .int .i64 0] 116))) := (Stay.new w _).alloc _
  generalize ((List.replicate 8 0).map fun (p : Nat) => Value.int .i64 (p : Int)).toArray = zs at hmk HT HS
  have h1 := eql_h
  have h2 := eql_s
  clear hF
  go_enter Try.func66, Try.ntmps66
  go_wp2
  go_ret2
  exact ⟨rfl, HT.out, HS.out⟩

theorem get_yes (h : Tab w bt fp cv pb N len reach came places) (k : LK) (hk : KeyOk fp k) {t : Nat} {e : E} (he : came[t]? = some e) (hth : e.there = true) (hs : sm fp e.key k = true) :
    Calls Try.prog 62 #[.pointer (some ⟨bt, 0, none⟩), k.v] w fun e' w' => e' = .returned (.tuple #[.int .i64 (e.val), .bool true]) ∧ Stay w w' := by
  obtain ⟨g, cap, hcv, hC⟩ := h.row.at he
  have hf := find_yes h k hk hcv hC he hth hs
  have HC : Hid (w.cell? ⟨g, t * 5 + 1, none⟩ = some (.int .i64 (e.val))) := (hC.cells t e he).2.1
  clear h hC he hcv
  go_enter Try.func62, Try.ntmps62
  go_wp2_with fail
  refine hf.mono ?_
  rintro e9 W ⟨rfl, hW⟩
  have HW : Hid (Stay w W) := hW
  clear hf hW
  have hc := HW.out.cell HC.out
  go_wp2
  go_ret2
  exact ⟨rfl, HW.out⟩

theorem get_no (h : Tab w bt fp cv pb N len reach came places) (k : LK) (hk : KeyOk fp k) (hno : ∀ (t : Nat) (e : E), came[t]? = some e → e.there = true → sm fp e.key k = false) :
    Calls Try.prog 62 #[.pointer (some ⟨bt, 0, none⟩), k.v] w fun e' w' => e' = .returned (.tuple #[(.int .i64 0), .bool false]) ∧ Stay w w' := by
  have hf := find_no h k hk hno
  clear h hno
  go_enter Try.func62, Try.ntmps62
  go_wp2_with fail
  refine hf.mono ?_
  rintro e9 W ⟨rfl, hW⟩
  have HW : Hid (Stay w W) := hW
  clear hf hW
  go_wp2
  go_ret2
  exact ⟨rfl, HW.out⟩

end
end Go.Proofs.Ytnhmjheipfopoaa.L
