/- A rule's variables, what a body binds: Vars, Bound. -/
import Derived.Test.YtpnjmldbohecdaaEL
import Derived.Test.YtpnjmldbohecdaaEB
namespace Go.Proofs.Ytpnjmldbohecdaa
open Go.RowKit Go.Maps Go.Shelf

theorem owS_not {t : TypeId} (h : t ≠ 9) : ¬ OwS t := h
theorem once_short {xs : List (Int × ByteArray)} (h : ∀ p ∈ xs, p.2.size ≤ 1048576) : ∀ p ∈ sel newC xs, p.2.size ≤ 1048576 := fun p hp => h p (sel_mem hp)
theorem box3 {w V : World} {x : Ru} (h : V.heap[w.heap.size]? = some (.cells #[.string x.head.pred, .slice x.head.a x.head.ts.length x.head.cap, .slice x.a x.body.length x.cap] 27 (0, 0))) :
    V.cell? ⟨w.heap.size, 0, none⟩ = some (.string x.head.pred) ∧ V.cell? ⟨w.heap.size, 1, none⟩ = some (.slice x.head.a x.head.ts.length x.head.cap) ∧ V.cell? ⟨w.heap.size, 2, none⟩ = some (.slice x.a x.body.length x.cap) := by
  simp [World.cell?, h]

set_option maxRecDepth 100000 in
theorem sVars_any (x : Ru) (w : World) (h : x.fit w) : Calls Try.prog 5 #[x.v] w (NewR 9 1 encSt w (onceN (placesR x))) := by
  have hst := fun w => standing_any x w
  have hfew := placesR_few h.small
  have hsh := placesR_short h.shorts
  obtain ⟨w0, hw0⟩ : ∃ w0, w0 = w.alloc (.cells #[.string x.head.pred, .slice x.head.a x.head.ts.length x.head.cap, .slice x.a x.body.length x.cap] 27) := ⟨_, rfl⟩
  have s0 : Stay w w0 := by rw [hw0]; exact Stay.new _ _
  have z0 : w0.heap.size = w.heap.size + 1 := by rw [hw0]; simp
  obtain ⟨e0, e1, e2⟩ := box3 (x := x) (w := w) (V := w0) (by rw [hw0]; exact heap_new _ _)
  rw [hw0] at e0 e1 e2
  obtain ⟨w1, hw1⟩ : ∃ w1, w1 = w0.alloc (.cells #[.string x.head.pred, .slice x.head.a x.head.ts.length x.head.cap, .slice x.a x.body.length x.cap] 27) := ⟨_, rfl⟩
  have s1 : Stay w0 w1 := by rw [hw1]; exact Stay.new _ _
  have z1 : w1.heap.size = w.heap.size + 2 := by rw [hw1]; simp [z0]
  have b1 : w1.heap[w.heap.size + 1]? = some (.cells #[.string x.head.pred, .slice x.head.a x.head.ts.length x.head.cap, .slice x.a x.body.length x.cap] 27 (0, 0)) := by rw [hw1, ← z0]; exact heap_new _ _
  obtain ⟨w2, hw2⟩ : ∃ w2, w2 = w1.alloc (.cells #[.func (.func 42) #[] #[.pointer (some ⟨w.heap.size + 1, 0, none⟩)]] 61) := ⟨_, rfl⟩
  have s2 : Stay w1 w2 := by rw [hw2]; exact Stay.new _ _
  have b2 : w2.heap[w.heap.size + 1 + 1]? = some (.cells #[.func (.func 42) #[] #[.pointer (some ⟨w.heap.size + 1, 0, none⟩)]] 61 (0, 0)) := by rw [hw2, show w.heap.size + 1 + 1 = w1.heap.size by omega]; exact heap_new _ _
  have z2 : w2.heap.size = w.heap.size + 3 := by rw [hw2]; simp [z1]
  have st : Stay w w2 := (s0.trans s1).trans s2
  have hf2 := h.stay st
  have hq1 := stand_seq OwS ⟨owS_not (by decide), owS_not (by decide), owS_not (by decide)⟩ x (w.heap.size + 1) (fun i => i < w2.heap.size) w2 hf2.ins ((s2.block _ (by omega)).trans b1) hf2.small hf2.reads (by show _ < _; omega) (fun _ h => h)
  have hq2 := once_seq OwS ⟨owS_not (by decide), owS_not (by decide)⟩ (placesR x) 42 #[.pointer (some ⟨w.heap.size + 1, 0, none⟩)] (enters_of Try.func42 (by kernel_rfl) rfl) (w.heap.size + 1 + 1) (fun i => i < w2.heap.size) w2 hq1 b2 hsh (by omega) (by show _ < _; omega) (fun _ h => h)
  have hnm := namesOf_any (sel newC (placesR x)) 40 #[.pointer (some ⟨w.heap.size + 1 + 1, 0, none⟩)] (enters_of Try.func40 (by kernel_rfl) rfl) (fun i => i < w2.heap.size) w2 hq2 (fun _ h => h) (once_short hsh) (by have := sel_len newC (placesR x); omega)
  have HST : Hid (Stay w w2) := st
  dsimp only [Ru.v, At.sl] at hst ⊢
  clear hq1 hq2 hf2 st s0 s1 s2 b1 b2 hsh
  go_enter Try.func5, Try.ntmps5
  go_wp2_with (first
    | (go_at_call 23; refine (hst _).mono ?_; rintro e w' ⟨rfl, rfl⟩)
    | (go_at_call 22; refine (once_any _ _ _).mono ?_; rintro e w' ⟨rfl, rfl⟩)
    | (go_at_call 21; rw [← hw0, ← hw1, ← hw2]; refine hnm.mono ?_; rintro e w' ⟨a, c, rfl, hO, s⟩))
  go_ret
  exact ⟨a, c, rfl, hO.base (by omega), HST.out.trans s⟩

set_option maxRecDepth 100000 in
theorem sBound_any (x : Ru) (w : World) (h : x.fit w) : Calls Try.prog 6 #[.slice x.a x.body.length x.cap] w (NewR 9 1 encSt w (onceN (bindP x.body))) := by
  have hfew := placesB_few (bodySmall h.small)
  have hsh := placesB_short h.shorts.2
  have hln := sel_len (bindC x.body) (placesB 0 x.body)
  obtain ⟨w1, hw1⟩ : ∃ w1, w1 = w.alloc (.cells #[.slice x.a x.body.length x.cap] 25) := ⟨_, rfl⟩
  have s1 : Stay w w1 := by rw [hw1]; exact Stay.new _ _
  have z1 : w1.heap.size = w.heap.size + 1 := by rw [hw1]; simp
  have c1 : w1.cell? ⟨w.heap.size, 0, none⟩ = some (.slice x.a x.body.length x.cap) := by rw [hw1]; exact new_cell _ _ _
  obtain ⟨w2, hw2⟩ : ∃ w2, w2 = w1.alloc (.cells #[.func (.func 43) #[] #[.pointer (some ⟨w.heap.size, 0, none⟩)]] 61) := ⟨_, rfl⟩
  have s2 : Stay w1 w2 := by rw [hw2]; exact Stay.new _ _
  have b2 : w2.heap[w.heap.size + 1]? = some (.cells #[.func (.func 43) #[] #[.pointer (some ⟨w.heap.size, 0, none⟩)]] 61 (0, 0)) := by rw [hw2, ← z1]; exact heap_new _ _
  have z2 : w2.heap.size = w.heap.size + 2 := by rw [hw2]; simp [z1]
  have st : Stay w w2 := s1.trans s2
  have hf2 := h.stay st
  have hq1 := bind_seq OwS ⟨owS_not (by decide), owS_not (by decide), owS_not (by decide), owS_not (by decide)⟩ x.body x.a x.b x.off x.cap w.heap.size (fun i => i < w2.heap.size) w2 hf2.ins.2 (s2.cell c1) (bodySmall hf2.small) (bodyReads hf2.reads) (by show _ < _; omega) (fun _ h => h)
  have hq2 := once_seq OwS ⟨owS_not (by decide), owS_not (by decide)⟩ (bindP x.body) 43 #[.pointer (some ⟨w.heap.size, 0, none⟩)] (enters_of Try.func43 (by kernel_rfl) rfl) (w.heap.size + 1) (fun i => i < w2.heap.size) w2 hq1 b2 (fun p hp => hsh p (sel_mem hp)) (by unfold bindP; omega) (by show _ < _; omega) (fun _ h => h)
  have hnm := namesOf_any (sel newC (bindP x.body)) 40 #[.pointer (some ⟨w.heap.size + 1, 0, none⟩)] (enters_of Try.func40 (by kernel_rfl) rfl) (fun i => i < w2.heap.size) w2 hq2 (fun _ h => h) (once_short fun p hp => hsh p (sel_mem hp)) (by have := sel_len newC (bindP x.body); unfold bindP at *; omega)
  have HST : Hid (Stay w w2) := st
  clear hq1 hq2 hf2 st s1 s2 b2 hsh c1
  go_enter Try.func6, Try.ntmps6
  go_wp2_with (first
    | (go_at_call 24; refine (binding_any _ _ _ _).mono ?_; rintro e w' ⟨rfl, rfl⟩)
    | (go_at_call 22; refine (once_any _ _ _).mono ?_; rintro e w' ⟨rfl, rfl⟩)
    | (go_at_call 21; rw [← hw1, ← hw2]; refine hnm.mono ?_; rintro e w' ⟨a, c, rfl, hO, s⟩))
  go_ret
  exact ⟨a, c, rfl, hO.base (by omega), HST.out.trans s⟩
end Go.Proofs.Ytpnjmldbohecdaa
