/- print.Atom, print.Literal. -/
import Derived.Test.YtmbjghhicbbgmaaDoorPP
namespace Go.Proofs.YtmbjghhicbbgmaaDoor
open Go.RowKit Go.Maps

set_option maxRecDepth 100000 in
set_option maxHeartbeats 2000000 in
theorem writtenA_any (x : At) (w : World) (hM : x.In w) (hT : Tabs w) : Calls Tryd.prog 25 #[x.v, .func (.func 26) #[] #[]] w fun e w' => e = .returned (tellT x.ok x.txt) ∧ Stay w w' := by
  have hN : Stay w (w.alloc (.cells #[.string x.pred, x.sl] 24)) := Stay.new w _
  have hF := fresh_bld0 (w.alloc (.cells #[.string x.pred, x.sl] 24))
  have hN2 : Stay (w.alloc (.cells #[.string x.pred, x.sl] 24)) _ := Stay.new (w.alloc (.cells #[.string x.pred, x.sl] 24)) (.cells #[.pointer none, .slice none 0 0] 72)
  rw [show (w.alloc (.cells #[.string x.pred, x.sl] 24)).heap.size = w.heap.size + 1 from by simp] at hF
  have HS : Hid (Stay w ((w.alloc (.cells #[.string x.pred, x.sl] 24)).alloc (.cells #[.pointer none, .slice none 0 0] 72))) := hN.trans hN2
  have hw := writeAtom_any hF x (sure_of_stay (fun _ h => TmsS.stay hM h) HS.out (Nat.le_succ _)) (sure_of_stay (fun _ h => hT.stay h) HS.out (Nat.le_succ _)) (by simp) (by simp)
  obtain ⟨ok, hok⟩ : ∃ ok, x.ok = ok := ⟨_, rfl⟩
  obtain ⟨txt, htx⟩ : ∃ txt, x.txt = txt := ⟨_, rfl⟩
  rw [hok, htx] at hw ⊢
  clear hok htx
  obtain ⟨p, a, bk, off, cap, ts⟩ := x
  unfold At.v At.sl at *
  unfold tellT
  dsimp only at *
  generalize ts.length = n at *
  clear hF hN hN2 hT hM
  cases ok
  · simp only [Bool.false_eq_true, if_false]
    go_enter Tryd.func25, Tryd.ntmps25
    go_wp2_with (first
      | (go_at_call 26; refine hw.mono ?_; rintro e W1 ⟨rfl, cs, hB1, hcs, hcl, hb1⟩))
    go_ret2
    exact ⟨rfl, Below.trans HS.out (hb1.1.mono (Nat.le_succ _))⟩
  · simp only [if_true]
    go_enter Tryd.func25, Tryd.ntmps25
    go_wp2_with (first
      | (go_at_call 26; refine hw.mono ?_; rintro e W1 ⟨rfl, cs, hB1, hcs, hcl, hb1⟩; obtain rfl := hcs rfl; have w2 := Bld.strOk hB1 (Nat.le_trans (by simp) hb1.size); have HB1 : Hid (Wk _ _ _ W1) := hb1; clear hb1 hB1)
      | (go_at_call 35; refine w2.mono ?_; rintro e W2 ⟨rfl, hb2⟩))
    go_ret2
    exact ⟨by simp, Below.trans HS.out ((HB1.out.1.trans hb2).mono (Nat.le_succ _))⟩
theorem pAtom_any (x : At) (w : World) (hM : x.In w) (hT : Tabs w) : Calls Tryd.prog 9 #[x.v] w fun e w' => e = .returned (tellT x.ok x.txt) ∧ Stay w w' := by
  have hN : Stay w (w.alloc (.cells #[.string x.pred, x.sl] 24)) := Stay.new w _
  have hw := writtenA_any x _ (TmsS.stay hM hN) (hT.stay hN)
  have HS : Hid (Stay w (w.alloc (.cells #[.string x.pred, x.sl] 24))) := hN
  obtain ⟨ok, hok⟩ : ∃ ok, x.ok = ok := ⟨_, rfl⟩
  obtain ⟨txt, htx⟩ : ∃ txt, x.txt = txt := ⟨_, rfl⟩
  rw [hok, htx] at hw ⊢
  clear hok htx
  obtain ⟨p, a, bk, off, cap, ts⟩ := x
  unfold At.v At.sl at *
  unfold tellT at *
  dsimp only at *
  generalize (if ok = true then txt else []).toArray = z at *
  generalize (if ok = true then (0 : Int) else 2) = y at *
  generalize ts.length = n at *
  clear hT hM hN
  go_enter Tryd.func9, Tryd.ntmps9
  go_wp2_with (first
    | (go_at_call 25; refine hw.mono ?_; rintro e W1 ⟨rfl, hs1⟩))
  go_ret2
  exact ⟨rfl, HS.out.trans hs1⟩

set_option maxRecDepth 100000 in
set_option maxHeartbeats 2000000 in
theorem writtenL_any (x : Li) (w : World) (hM : x.atom.In w) (hT : Tabs w) : Calls Tryd.prog 21 #[x.v, .func (.func 22) #[] #[]] w fun e w' => e = .returned (tellT x.ok x.txt) ∧ Stay w w' := by
  have hN : Stay w (w.alloc (.cells #[.int .i64 x.kind, .string x.atom.pred, x.atom.sl, .bool x.left.var, .string x.left.text, .bool x.right.var, .string x.right.text] 40)) := Stay.new w _
  have hF := fresh_bld0 (w.alloc (.cells #[.int .i64 x.kind, .string x.atom.pred, x.atom.sl, .bool x.left.var, .string x.left.text, .bool x.right.var, .string x.right.text] 40))
  have hN2 : Stay (w.alloc (.cells #[.int .i64 x.kind, .string x.atom.pred, x.atom.sl, .bool x.left.var, .string x.left.text, .bool x.right.var, .string x.right.text] 40)) _ := Stay.new (w.alloc (.cells #[.int .i64 x.kind, .string x.atom.pred, x.atom.sl, .bool x.left.var, .string x.left.text, .bool x.right.var, .string x.right.text] 40)) (.cells #[.pointer none, .slice none 0 0] 72)
  rw [show (w.alloc (.cells #[.int .i64 x.kind, .string x.atom.pred, x.atom.sl, .bool x.left.var, .string x.left.text, .bool x.right.var, .string x.right.text] 40)).heap.size = w.heap.size + 1 from by simp] at hF
  have HS : Hid (Stay w ((w.alloc (.cells #[.int .i64 x.kind, .string x.atom.pred, x.atom.sl, .bool x.left.var, .string x.left.text, .bool x.right.var, .string x.right.text] 40)).alloc (.cells #[.pointer none, .slice none 0 0] 72))) := hN.trans hN2
  have hw := writeLiteral_any hF x (sure_of_stay (fun _ h => TmsS.stay hM h) HS.out (Nat.le_succ _)) (sure_of_stay (fun _ h => hT.stay h) HS.out (Nat.le_succ _)) (by simp) (by simp)
  obtain ⟨ok, hok⟩ : ∃ ok, x.ok = ok := ⟨_, rfl⟩
  obtain ⟨txt, htx⟩ : ∃ txt, x.txt = txt := ⟨_, rfl⟩
  rw [hok, htx] at hw ⊢
  clear hok htx
  obtain ⟨k, ⟨p, a, bk, off, cap, ts⟩, ⟨va1, s1⟩, ⟨va2, s2⟩⟩ := x
  unfold Li.v At.sl at *
  unfold tellT
  dsimp only at *
  generalize ts.length = n at *
  clear hF hN hN2 hT hM
  cases ok
  · simp only [Bool.false_eq_true, if_false]
    go_enter Tryd.func21, Tryd.ntmps21
    go_wp2_with (first
      | (go_at_call 22; refine hw.mono ?_; rintro e W1 ⟨rfl, cs, hB1, hcs, hcl, hb1⟩))
    go_ret2
    exact ⟨rfl, Below.trans HS.out (hb1.1.mono (Nat.le_succ _))⟩
  · simp only [if_true]
    go_enter Tryd.func21, Tryd.ntmps21
    go_wp2_with (first
      | (go_at_call 22; refine hw.mono ?_; rintro e W1 ⟨rfl, cs, hB1, hcs, hcl, hb1⟩; obtain rfl := hcs rfl; have w2 := Bld.strOk hB1 (Nat.le_trans (by simp) hb1.size); have HB1 : Hid (Wk _ _ _ W1) := hb1; clear hb1 hB1)
      | (go_at_call 35; refine w2.mono ?_; rintro e W2 ⟨rfl, hb2⟩))
    go_ret2
    exact ⟨by simp, Below.trans HS.out ((HB1.out.1.trans hb2).mono (Nat.le_succ _))⟩
theorem pLiteral_any (x : Li) (w : World) (hM : x.atom.In w) (hT : Tabs w) : Calls Tryd.prog 7 #[x.v] w fun e w' => e = .returned (tellT x.ok x.txt) ∧ Stay w w' := by
  have hN : Stay w (w.alloc (.cells #[.int .i64 x.kind, .string x.atom.pred, x.atom.sl, .bool x.left.var, .string x.left.text, .bool x.right.var, .string x.right.text] 40)) := Stay.new w _
  have hw := writtenL_any x _ (TmsS.stay hM hN) (hT.stay hN)
  have HS : Hid (Stay w (w.alloc (.cells #[.int .i64 x.kind, .string x.atom.pred, x.atom.sl, .bool x.left.var, .string x.left.text, .bool x.right.var, .string x.right.text] 40))) := hN
  obtain ⟨ok, hok⟩ : ∃ ok, x.ok = ok := ⟨_, rfl⟩
  obtain ⟨txt, htx⟩ : ∃ txt, x.txt = txt := ⟨_, rfl⟩
  rw [hok, htx] at hw ⊢
  clear hok htx
  obtain ⟨k, ⟨p, a, bk, off, cap, ts⟩, ⟨va1, s1⟩, ⟨va2, s2⟩⟩ := x
  unfold Li.v At.sl at *
  unfold tellT at *
  dsimp only at *
  generalize (if ok = true then txt else []).toArray = z at *
  generalize (if ok = true then (0 : Int) else 2) = y at *
  generalize ts.length = n at *
  clear hT hM hN
  go_enter Tryd.func7, Tryd.ntmps7
  go_wp2_with (first
    | (go_at_call 21; refine hw.mono ?_; rintro e W1 ⟨rfl, hs1⟩))
  go_ret2
  exact ⟨rfl, HS.out.trans hs1⟩
end Go.Proofs.YtmbjghhicbbgmaaDoor
