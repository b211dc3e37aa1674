/- lookup: a row's lookup is found, or made. Laws; its first region. -/
import Derived.Test.YtnhmjheipfopoaaL5c
import Derived.Test.YtnhmjheipfopoaaJ5r
import Derived.Deep.WholeRow
namespace Go.Proofs.Ytnhmjheipfopoaa.L
open Go.RowKit Go.Maps Go.Proofs.Ytnhmjheipfopoaa

theorem step_lookup_ok {P : Program} {ops : Array Oper} {o : Oper} {a : Act} {w : World} {K : Act → World → Prop} {Q : Exit → Act → World → Prop} {E : Prop} (hg : o.guard = none) (m x : Operand) (t : TypeId)
    (ho : o.op = .lookup t m x true) {mv kv v : Value} (hm : a.eval m = mv) (hx : a.eval x = kv) (hr : (Instr.lookup t mv kv true).run P w = .ok v w) (h : K (a.put o.dst v) w) : if Region.wanted o (yielded ops a.tmps) = true then Oper.wp P o a w K Q else E := by
  have hw : Region.wanted o (yielded ops a.tmps) = true := by simp [Region.wanted, hg]
  rw [if_pos hw]
  unfold Oper.wp
  simp [execOp, ho, hm, hx, hr, Result.andThen]
  exact h
theorem step_update_run {P : Program} {ops : Array Oper} {o : Oper} {a : Act} {w w' : World} {K : Act → World → Prop} {Q : Exit → Act → World → Prop} {E : Prop} (hg : o.guard = none) (m x y : Operand) (t : TypeId)
    (ho : o.op = .mapUpdate t m x y) {mv kv v : Value} (hm : a.eval m = mv) (hx : a.eval x = kv) (hy : a.eval y = v) (hr : (Instr.mapUpdate t mv kv v).run P w = .ok () w') (h : K (a.put o.dst undef) w') : if Region.wanted o (yielded ops a.tmps) = true then Oper.wp P o a w K Q else E := by
  have hw : Region.wanted o (yielded ops a.tmps) = true := by simp [Region.wanted, hg]
  rw [if_pos hw]
  unfold Oper.wp
  simp [execOp, ho, hm, hx, hy, hr, Result.andThen]
  exact h
theorem step_load_row {P : Program} {ops : Array Oper} {o : Oper} {a : Act} {w : World} {K : Act → World → Prop} {Q : Exit → Act → World → Prop} {E : Prop} (hgd : o.guard = none) (ty : TypeId) (x : Operand) (ho : o.op = .load ty x)
    (g : Nat) (hx : a.eval x = .pointer (some ⟨g, 0, none⟩)) (t : TypeId) (cs : Array Value) (fr : Nat × Nat) (d : TypeDesc) (hg : w.heap[g]? = some (.cells cs t fr))
    (hu : P.underlying ty = some d) (hd : (match d with | .struct _ | .array _ _ => true | _ => false) = true) (hi : (P.info? ty).map (·.size) = some cs.size)
    (h : K (a.put o.dst (.agg cs)) w) : if Region.wanted o (yielded ops a.tmps) = true then Oper.wp P o a w K Q else E := by
  have hw : Region.wanted o (yielded ops a.tmps) = true := by simp [Region.wanted, hgd]
  rw [if_pos hw]
  exact wp_load_row ty x ho g hx t cs fr d hg hu hd hi h

section
variable {W W' : World} {F : Nat → Prop} {rb ar : Nat} {T : List (List Int)} {vv : Value} {mb : Nat} {L : List (Nat × Nat)} {Fs : Nat → Nat → Prop}

theorem Rl.grow (h : Rl W F rb ar T vv mb L Fs) {F' : Nat → Prop} (hF : ∀ k, F k → F' k) (hl : ∀ k, F' k → k < W.heap.size) : Rl W F' rb ar T vv mb L Fs :=
  { h with foot := ⟨hF _ h.foot.1, hF _ h.foot.2.1, fun k hk => hF k (h.foot.2.2.1 k hk), fun c x hc k hk => hF k (h.foot.2.2.2 c x hc k hk)⟩, lt := hl }

set_option maxRecDepth 100000 in
set_option maxHeartbeats 2000000 in
theorem lookup_yes (h : Rl W F rb ar T vv mb L Fs) {c x : Nat} (hc : c < 65536) (hx : lkp L c = some x) :
    Calls Try.prog 32 #[.pointer (some ⟨rb, 0, none⟩), .agg (rowV c)] W fun e w' => e = .returned (.pointer (some ⟨x, 0, none⟩)) ∧ Stay W w' := by
  obtain ⟨V, hV⟩ : ∃ V, V = rowV c := ⟨_, rfl⟩
  have HV : Hid (V = rowV c) := hV
  rw [← hV]
  clear hV
  have c3 := h.box.c3
  have hlk : ∀ Y, Stay W Y → (Instr.lookup 56 (.map (some mb)) (.agg V) true).run Try.prog Y = .ok (.tuple #[.pointer (some ⟨x, 0, none⟩), .bool true]) Y := fun Y hY => by
    have := (h.map.stay hY).look hc
    rw [hx] at this
    rw [HV.out]; exact this
  clear h hx
  have hrl : rb < W.heap.size := World.block_lt_of_cell? W _ c3
  go_enter Try.func32, Try.ntmps32
  go_wp2_with fail
  obtain ⟨W1, hW1⟩ : ∃ W1, W1 = (W.alloc (.cells #[.pointer (some ⟨rb, 0, none⟩)] 24)).alloc (.cells V 64) := ⟨_, rfl⟩
  rw [← hW1]
  have HZ : Hid (Stay W W1) := by
    have : Stay W W1 := by rw [hW1]; exact (Stay.new _ _).alloc _
    exact this
  have hrow : W1.heap[W.heap.size + 1]? = some (.cells V 64 (0, 0)) := by rw [hW1]; exact heap_alloc2_new _ _ _
  have hbx : W1.cell? ⟨W.heap.size, 0, none⟩ = some (.pointer (some ⟨rb, 0, none⟩)) := by rw [hW1]; exact cell_of (heap_alloc2_old _ _ _) rfl
  have c3' := HZ.out.cell c3
  clear hW1 c3
  refine region_wpH (S := fun Y => Y.cell? ⟨W.heap.size, 0, none⟩ = some (.pointer (some ⟨rb, 0, none⟩)) ∧ Y.cell? ⟨rb, 3, none⟩ = some (.map (some mb)) ∧ Stay W1 Y) rfl ?_
  have hS : W1.drew.cell? ⟨W.heap.size, 0, none⟩ = some (.pointer (some ⟨rb, 0, none⟩)) ∧ W1.drew.cell? ⟨rb, 3, none⟩ = some (.map (some mb)) ∧ Stay W1 W1.drew := ⟨hbx, c3', Stay.drew _⟩
  clear hbx c3'
  --@Y@
  refine wpAnyH_take (i := 0) (v := .pointer (some ⟨rb, 0, none⟩)) rfl (by kernel_rfl) (by kernel_rfl) (by kernel_rfl) (fun _ _ _ h => h) (Or.inl ⟨by rfl, fun W hW => by obtain ⟨q0, q1, q2⟩ := hW; first | (go_simp; done) | (go_simp; with_reducible rfl)⟩) hS ?_
  refine wpAnyH_take (i := 1) (v := .pointer (some ⟨rb, 0, none⟩)) rfl (by kernel_rfl) (by kernel_rfl) (by kernel_rfl) (fun _ _ _ h => h) (Or.inl ⟨by rfl, fun W _ => by first | (go_simp; done) | (go_simp; with_reducible rfl)⟩) hS ?_
  refine wpAnyH_take (i := 2) (v := .pointer (some ⟨rb, 3, none⟩)) rfl (by kernel_rfl) (by kernel_rfl) (by kernel_rfl) (fun _ _ _ h => h) (Or.inl ⟨by rfl, fun W _ => by first | (go_simp; done) | (go_simp; with_reducible rfl)⟩) hS ?_
  refine wpAnyH_take (i := 3) (v := .map (some mb)) rfl (by kernel_rfl) (by kernel_rfl) (by kernel_rfl) (fun _ _ _ h => h) (Or.inl ⟨by rfl, fun W hW => by obtain ⟨q0, q1, q2⟩ := hW; first | (go_simp; done) | (go_simp; with_reducible rfl)⟩) hS ?_
  refine wpAnyH_ready (rs := [4]) (by kernel_rfl) (by simp) (AllReadyH.cons (o := { dst := some 14, op := Op.load 64 (Operand.tmp 3), type := 64, pos := "relation.go:200", after := #[], guard := none }) rfl (fun K hK => ?_) AllReadyH.nil)
  refine step_load_row rfl 64 _ rfl (W.heap.size + 1) (by first | rfl | (simp [Act.eval]; done) | simp [Act.eval, Act.put]) 64 V (0, 0) (.array 16 4) (hS.2.2.heap hrow) Try.underlying64 rfl (by rw [HV.out]; exact sizeRow' _) ?_
  (try go_simp)
  refine hK.out _ _ hS (fun hS => ?_)
  clear hK K
  refine wpAnyH_ready (rs := [5]) (by kernel_rfl) (by simp) (AllReadyH.cons (o := { dst := some 15, op := Op.lookup 56 (Operand.tmp 13) (Operand.tmp 14) true, type := 86, pos := "relation.go:200", after := #[{ on := 3, ground := Ground.data }, { on := 4, ground := Ground.data }], guard := none }) rfl (fun K hK => ?_) AllReadyH.nil)
  refine step_lookup_ok rfl _ _ 56 rfl (by first | rfl | (simp [Act.eval]; done) | simp [Act.eval, Act.put]) (by first | rfl | (simp [Act.eval]; done) | simp [Act.eval, Act.put]) (hlk _ (HZ.out.trans hS.2.2)) ?_
  (try go_simp)
  refine hK.out _ _ hS (fun hS => ?_)
  clear hK K
  refine wpAnyH_take (i := 6) (v := .tuple #[.pointer (some ⟨x, 0, none⟩), .bool true]) rfl (by kernel_rfl) (by kernel_rfl) (by kernel_rfl) (fun _ _ _ h => h) (Or.inl ⟨by rfl, fun W _ => by first | (go_simp; done) | (go_simp; with_reducible rfl)⟩) hS ?_
  refine wpAnyH_take (i := 7) (v := .pointer (some ⟨x, 0, none⟩)) rfl (by kernel_rfl) (by kernel_rfl) (by kernel_rfl) (fun _ _ _ h => h) (Or.inl ⟨by rfl, fun W _ => by first | (go_simp; done) | (go_simp; with_reducible rfl)⟩) hS ?_
  refine wpAnyH_take (i := 8) (v := .bool true) rfl (by kernel_rfl) (by kernel_rfl) (by kernel_rfl) (fun _ _ _ h => h) (Or.inl ⟨by rfl, fun W _ => by first | (go_simp; done) | (go_simp; with_reducible rfl)⟩) hS ?_
  refine wpAnyH_take (i := 9) (v := .pointer (some ⟨x, 0, none⟩)) rfl (by kernel_rfl) (by kernel_rfl) (by kernel_rfl) (fun _ _ _ h => h) (Or.inl ⟨by rfl, fun W _ => by first | (go_simp; done) | (go_simp; with_reducible rfl)⟩) hS ?_
  refine wpAnyH_take (i := 10) (v := .bool true) rfl (by kernel_rfl) (by kernel_rfl) (by kernel_rfl) (fun _ _ _ h => h) (Or.inl ⟨by rfl, fun W _ => by first | (go_simp; done) | (go_simp; with_reducible rfl)⟩) hS ?_
  refine wpAnyH_done (by kernel_rfl) ?_ _
  unfold normQ
  have HS : Hid (Stay W W1.drew) := HZ.out.trans hS.2.2
  clear hS hlk hrow
  dsimp only
  --@Y.@
  go_wp2
  go_ret
  exact ⟨rfl, HS.out⟩
end
end Go.Proofs.Ytnhmjheipfopoaa.L
