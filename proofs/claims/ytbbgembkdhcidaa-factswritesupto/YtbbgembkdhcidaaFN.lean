/- Read. -/
import Derived.Test.YtbbgembkdhcidaaFNa
namespace Go.Proofs.Ytbbgembkdhcidaa
open Go.RowKit Go.Maps

/-- What Read holds between two lines: the arity, the room, the tuples so far. -/
structure RJ (w : World) (n ba bt rb br cap : Nat) (ls : List (List UInt8)) (A : World) : Prop where
  stay : Stay w A
  a : Boxed A ba 3 (.int .i64 (n : Int))
  r : Boxed A br 42 (.slice (some ⟨rb, 0, none⟩) 0 cap)
  room : Rm A rb cap []
  t : ∃ v us, Boxed A bt 22 v ∧ OwnG (br + 1) A v us (ls.map fun x => (tupL x n).map toB)
  ord : w.heap.size ≤ ba ∧ ba < bt ∧ bt < rb ∧ rb < br
section
variable {w : World} {n ba bt rb br cap : Nat} {ls : List (List UInt8)} {A A' : World}
theorem RJ.go (h : RJ w n ba bt rb br cap ls A) (hs : Stay A A') : RJ w n ba bt rb br cap ls A' := by
  obtain ⟨v, us, hb, ho⟩ := h.t
  exact ⟨h.stay.trans hs, (hs.block _ h.a.lt).trans h.a, (hs.block _ h.r.lt).trans h.r, h.room.stay hs, ⟨v, us, (hs.block _ hb.lt).trans hb, ho.stay hs⟩, h.ord⟩
/-- One tuple more. -/
theorem RJ.push {x : List UInt8} {W1 : World} {v u : Value} {us : List Value} (h : RJ w n ba bt rb br cap ls A) (hb : Boxed A bt 22 v) (ho : OwnG (br + 1) A v us (ls.map fun x => (tupL x n).map toB)) (hu : OwnS A.heap.size W1 u ((tupL x n).map toB)) (ht : Turn (fun k => k = rb) A W1) (hR : Rm W1 rb cap []) (hl : (ls.length + 1) * 24 ≤ 140737488355328) (ty : TypeId) :
    ∃ a1 n1 c1 w2, (Builtin.append_ #[22, 22] ty #[v, .slice (some ⟨W1.heap.size, 0, none⟩) 1 1]).run Try.prog (W1.alloc (.cells #[u] 39)) = .ok (.slice a1 n1 c1) w2 ∧ Boxed w2 bt 22 v ∧ RJ w n ba bt rb br cap (ls ++ [x]) (w2.setCell ⟨bt, 0, none⟩ (.slice a1 n1 c1)) := by
  have hord := h.ord
  have hlr := h.r.lt
  have ho1 : OwnG (br + 1) W1 v us (ls.map fun x => (tupL x n).map toB) := ho.turn ht (fun k hk e => by have := (ho.lt k hk).1; omega)
  have hu1 : OwnS (br + 1) W1 u ((tupL x n).map toB) := hu.low hlr
  have hsz := ht.size
  obtain ⟨v', w2, hap, hg, hgr, hnn, hvb⟩ := ho1.push ty hu1 (fun k hk hbk => by have h1 := (hu.lt k hk).1; have h2 := (ho.lt k hbk).2; omega) (by rw [List.length_map]; exact hl) (by omega)
  obtain ⟨a1, n1, c1, rfl⟩ : ∃ a1 n1 c1, v' = .slice a1 n1 c1 := by
    rcases hg.row.2 with ⟨e, _⟩ | ⟨g, cap, cur, e, _⟩ <;> exact ⟨_, _, _, e⟩
  have hb1 : Boxed W1 bt 22 v := ht.heap hb (by omega)
  have hvl := fun k hk => (ho.lt k (.inl hk)).1
  have hb2 : Boxed w2 bt 22 v := (hb1.alloc _).kept hgr (fun e => by have := hvl bt e.symm; omega)
  have hT : Turn (fun k => k = bt ∨ v.ownBlock = some k) W1 (w2.setCell ⟨bt, 0, none⟩ (.slice a1 n1 c1)) :=
    Turn.set ((Turn.of_stay (Stay.new W1 _)).trans ((Turn.of_grown hgr).mono (fun k _ e => .inr e))) (.inl rfl) 0 _
  have hT0 : Turn (fun k => k = rb ∨ k = bt ∨ v.ownBlock = some k) A (w2.setCell ⟨bt, 0, none⟩ (.slice a1 n1 c1)) := (ht.mono (fun k _ e => .inl e)).trans (hT.mono (fun k _ e => .inr e))
  have hno : ∀ k, k ≤ br → ¬ v.ownBlock = some k := fun k hk e => by have := hvl k e; omega
  refine ⟨a1, n1, c1, w2, hap, hb2, ⟨?_, ?_, ?_, ?_, ⟨_, us ++ [u], hb2.set _, ?_⟩, hord⟩⟩
  · refine hT0.stay h.stay (fun k hk e => ?_)
    rcases e with e | e | e
    · omega
    · omega
    · exact hno k (by omega) e
  · refine hT0.heap h.a (fun e => ?_)
    rcases e with e | e | e
    · omega
    · omega
    · exact hno _ (by omega) e
  · refine hT0.heap h.r (fun e => ?_)
    rcases e with e | e | e
    · omega
    · omega
    · exact hno _ (by omega) e
  · refine hR.turn hT (fun e => ?_)
    rcases e with e | e
    · omega
    · exact hno _ (by omega) e
  · rw [List.map_append]
    refine hg.turn (Turn.set (S := fun k => k = bt) (Turn.refl _ _) rfl 0 _) (fun k hk e => ?_)
    have := (hg.lt k hk).1
    omega
end
theorem OwnS.slice {base : Nat} {w : World} {v : Value} {l : List ByteArray} (h : OwnS base w v l) : ∃ a n c, v = .slice a n c := by
  rcases h.2 with ⟨e, _⟩ | ⟨g, cap, cur, e, _⟩ <;> exact ⟨_, _, _, e⟩
/-- What is wrong in a written line of an arity. -/
def arT (n : Nat) (x : List UInt8) : Option Nat := if fieldsZ x (n : Int) = (n : Int) then none else some 0

set_option maxRecDepth 100000 in
set_option maxHeartbeats 4000000 in
theorem read1_any {w : World} {n ba bt rb br cap : Nat} {ls : List (List UInt8)} {A : World} (h : RJ w n ba bt rb br cap ls A) (x : List UInt8) (hx : x.length ≤ 4398046511104) (hcap : min x.length 1024 ≤ cap) (hn : n ≤ 16) (hl : (ls.length + 1) * 24 ≤ 140737488355328) :
    Calls Try.prog 45 #[.string (toB x), .pointer (some ⟨ba, 0, none⟩), .pointer (some ⟨bt, 0, none⟩), .pointer (some ⟨br, 0, none⟩)] A fun e A' => e = .returned (.int .i64 (plcZ (arT n x))) ∧ (arT n x = none → RJ w n ba bt rb br cap (ls ++ [x]) A') ∧ (arT n x ≠ none → Stay w A') := by
  have hf := fun W => fieldsOf_any x n W hx
  have mixed : Try.prog.follows .mixedOrders = true := by kernel_rfl
  unfold arT
  obtain ⟨z, hz⟩ : ∃ z, z = fieldsZ x n := ⟨_, rfl⟩
  rw [← hz] at hf ⊢
  have c1 := h.a.cell
  by_cases hq : z = (n : Int)
  · rw [if_pos hq]
    have hq2 : (z == (n : Int)) = true := by simp [hq]
    obtain ⟨v, us, hb, ho⟩ := h.t
    have c2 := hb.cell
    have c3 := h.r.cell
    have HH : Hid (RJ w n ba bt rb br cap ls A ∧ Boxed A bt 22 v ∧ OwnG (br + 1) A v us (ls.map fun x => (tupL x n).map toB)) := ⟨h, hb, ho⟩
    have htu := fun (W : World) (hR : Rm W rb cap []) => tupleOf_any x n W hx hcap hn hR
    rw [hq] at hf
    clear hz h hb ho
    generalize toB x = xb at *
    clear hq hq2
    go_enter Try.func45, Try.ntmps45
    go_upto_region 1 with fail
    go_quiet ((first | (go_at_call 46; exact Calls.quiet_of_same (hf _))))
    go_upto_region 3 with fail
    have egT : ∀ args w, (callFunc 47 args).run Try.prog w = .ok (.enter 47 args) w := enters_of Try.func47 (by kernel_rfl) rfl
    have hlb := HH.out.2.1.lt
    go_region_law (first
      | (refine step_call rfl 47 _ _ rfl (args := #[.string xb, .int .i64 (n : Int), .slice (some ⟨rb, 0, none⟩) 0 cap]) (by simp [Act.eval]) egT ?_; refine (htu _ (by exact HH.out.1.room)).mono ?_; rintro e W1 ⟨u, rfl, hu, ht, hR1⟩; obtain ⟨ua, un, uc, rfl⟩ := hu.slice; refine ⟨_, rfl, ?_⟩; have hsA := (by first | exact Stay.drewN A (nq + 1) | exact (Stay.drewN A nq).trans (Stay.drew _) : Stay A (A.drewN (nq + 1))); obtain ⟨a1, n1, k1, w2, hap, hb2, hRJ⟩ := RJ.push (HH.out.1.go hsA) (by exact HH.out.2.1) (HH.out.2.2.stay hsA) hu ht hR1 hl 22; have HRJ : Hid (RJ w n ba bt rb br cap (ls ++ [x]) (w2.setCell ⟨bt, 0, none⟩ (.slice a1 n1 k1))) := hRJ; have d1 := hb2.cell; have d2 := hb2.frozen; have d3 : W1.cell? ⟨bt, 0, none⟩ = some v := Boxed.cell (t := 22) (ht.heap (by exact HH.out.2.1) (by have := HH.out.1.ord; omega)); have d4 : ∀ o, (W1.alloc o).cell? ⟨bt, 0, none⟩ = some v := fun o => (Stay.new W1 o).cell d3; clear hRJ hu ht hR1 hb2 htu)
      | (refine step_append_run rfl _ _ _ _ rfl (by first | rfl | simp [Act.eval, Act.put]) (by first | rfl | simp [Act.eval, Act.put]) hap ?_; clear hap))
    all_goals
      go_wp2
      go_ret
      exact ⟨rfl, fun _ => HRJ.out, fun h => absurd rfl h⟩
  · rw [if_neg hq]
    have hq2 : (z == (n : Int)) = false := by simp [hq]
    have HS : Hid (Stay w A) := h.stay
    generalize toB x = xb at *
    clear hz h
    go_enter Try.func45, Try.ntmps45
    go_upto_region 1 with fail
    go_quiet ((first | (go_at_call 46; exact Calls.quiet_of_same (hf _))))
    go_wp2
    go_ret
    exact ⟨rfl, fun h => by simp at h, fun _ => HS.out.trans (Stay.drewN _ _)⟩
end Go.Proofs.Ytbbgembkdhcidaa
