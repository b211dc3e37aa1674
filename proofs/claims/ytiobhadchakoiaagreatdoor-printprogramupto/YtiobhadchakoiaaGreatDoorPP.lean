/- Rules: writeRule, Rule. -/
import Derived.Test.YtiobhadchakoiaaGreatDoorPO
namespace Go.Proofs.YtiobhadchakoiaaGreatDoor
open Go.RowKit Go.Maps

def Ru.ok (x : Ru) : Bool := decide (x.body.length ≤ 256) && x.head.ok && x.body.all Li.ok
def Ru.txt (x : Ru) : List UInt8 := x.head.txt ++ ((if x.body.length = 0 then [] else [32, 58, 45, 32]) ++ (catL [44, 32] (x.body.map Li.txt) ++ [46]))

theorem rule_cells {B b : Nat} {w W : World} {c0 c1 c2 : Value} (hb : b < w.heap.size) (h : Wk B b (w.alloc (.cells #[c0, c1, c2] 48)) W) :
    W.cell? ⟨w.heap.size, 0, none⟩ = some c0 ∧ W.cell? ⟨w.heap.size, 1, none⟩ = some c1 ∧ W.cell? ⟨w.heap.size, 2, none⟩ = some c2 := by
  have hbx := box_kept hb (by decide) h
  refine ⟨?_, ?_, ?_⟩ <;> (rw [Lib.cell_of_heap hbx]; rfl)

set_option maxRecDepth 100000 in
set_option maxHeartbeats 4000000 in
theorem writeRule_any {B b : Nat} {w : World} {bs : List UInt8} (h : Bld B b w bs) (x : Ru) (hM : Sure B b w x.In) (hT : Sure B b w Tabs) (hlen : bs.length + 17000000 ≤ 140737488355328) (hBw : B ≤ w.heap.size) :
    Calls Tryz.prog 33 #[.pointer (some ⟨b, 0, none⟩), x.v] w (Wrote B b w bs x.ok x.txt 17000000) := by
  obtain ⟨⟨p, ha, hbk, hof, hcap, hts⟩, a, bk, off, cap, ls⟩ := x
  have hbl := h.lt
  have HW : Hid (Wk B b w (w.alloc (.cells #[.string p, .slice ha hts.length hcap, .slice a ls.length cap] 48))) := Wk.new hBw _
  have HB : Hid (Bld B b (w.alloc (.cells #[.string p, .slice ha hts.length hcap, .slice a ls.length cap] 48)) bs) := h.stay (Stay.new w _)
  have HM1 : Hid (Sure B b w (At.In ⟨p, ha, hbk, hof, hcap, hts⟩)) := fun W hW => (hM W hW).1
  have HM2 : Hid (Sure B b w (fun W => LisS W a bk off ls)) := fun W hW => (hM W hW).2
  have HT : Hid (Sure B b w Tabs) := hT
  have hwa := writeAtom_any HB.out ⟨p, ha, hbk, hof, hcap, hts⟩ (HM1.out.next HW.out) (HT.out.next HW.out) (by omega) (Nat.le_trans hBw HW.out.size)
  unfold Ru.ok Ru.txt Ru.v
  unfold At.v At.sl at *
  dsimp only at *
  clear h hM hT
  by_cases h256 : ls.length ≤ 256
  · rw [decide_eq_true h256]
    have h256i : ¬ (256 : Int) < (ls.length : Int) := by omega
    simp only [Bool.true_and]
    have hws := fun (W : World) (cs : List UInt8) (hcs : cs.length ≤ 66000) (hBW : Bld B b W (bs ++ cs)) (hWW : Wk B b w W) => writeStringK hBW ⟨#[32, 58, 45, 32]⟩ (by rw [List.length_append]; show _ + 4 ≤ _; omega) (Nat.le_trans hBw hWW.size)
    have hwl := fun (W : World) (cs : List UInt8) (hcs : cs.length ≤ 66004) (hBW : Bld B b W (bs ++ cs)) (hWW : Wk B b w W) => writeListL_any hBW a bk off cap ls (HM2.out.next hWW) ⟨#[44, 32]⟩ (HT.out.next hWW) (by
      rw [List.length_append, show (⟨#[44, 32]⟩ : ByteArray).size = 2 from rfl]; omega) (Nat.le_trans hBw hWW.size)
    have hwc := fun (W : World) (cs : List UInt8) (hcs : cs.length ≤ 16966000) (hBW : Bld B b W (bs ++ cs)) (hWW : Wk B b w W) => writeByteK hBW 46 (by rw [List.length_append]; omega) (Nat.le_trans hBw hWW.size)
    rw [show ((UInt8.toNat 46 : Nat) : Int) = 46 from rfl] at hwc
    rw [show (⟨#[44, 32]⟩ : ByteArray).size = 2 from rfl, show (⟨#[44, 32]⟩ : ByteArray).data.toList = [44, 32] from rfl] at hwl
    rw [show (⟨#[32, 58, 45, 32]⟩ : ByteArray).data.toList = [32, 58, 45, 32] from rfl] at hws
    have H256 : Hid (ls.length ≤ 256) := h256
    generalize At.txt ⟨p, ha, hbk, hof, hcap, hts⟩ = htx at *
    generalize ls.all Li.ok = lok at *
    generalize catL [44, 32] (ls.map Li.txt) = ltx at *
    generalize hts.length = hn at *
    generalize ls.length = n at *
    clear h256
    cases hok : At.ok ⟨p, ha, hbk, hof, hcap, hts⟩
    · rw [hok] at hwa
      simp only [Bool.false_and]
      generalize (htx ++ _) = tx
      clear hok hws hwl hwc
      go_enter Tryz.func33, Tryz.ntmps33
      go_wp2_with (first
        | (go_at_call 50; refine hwa.mono ?_; rintro e W2 ⟨rfl, cs, hB3, hcs, hcl, hb3⟩))
      go_ret
      exact ⟨rfl, cs, hB3, (fun h => nomatch h), by omega, HW.out.trans hb3⟩
    · rw [hok] at hwa
      simp only [Bool.true_and]
      clear hok
      by_cases h0 : n = 0
      · rw [if_pos h0]
        have h0i : (n : Int) ≤ 0 := by omega
        have H0 : Hid (n = 0) := h0
        clear h0 hws
        go_enter Tryz.func33, Tryz.ntmps33
        go_wp2_with (first
          | (go_at_call 50; refine hwa.mono ?_; rintro e W2 ⟨rfl, cs, hB3, hcs, hcl, hb3⟩; obtain rfl := hcs rfl; obtain ⟨d0, d1, d2⟩ := rule_cells hbl hb3; have H2 : Hid (Wk B b w W2 ∧ cs.length ≤ 66000) := ⟨HW.out.trans hb3, hcl⟩; have hwl1 := hwl W2 _ (by omega) hB3 H2.out.1; clear hwl hB3 hcs hcl hb3)
          | (go_at_call 51; refine hwl1.mono ?_; rintro e W3 ⟨rfl, ds, hB4, hds, hdl, hb4⟩; have H3 : Hid (Wk B b w W3 ∧ (lok = true → ds = ltx) ∧ ds.length ≤ n * (66010 + 2)) := ⟨H2.out.1.trans hb4, hds, hdl⟩; rw [List.append_assoc] at hB4; have hwc1 := hwc W3 _ (by have := H2.out.2; have := H3.out.2.2; have := H256.out; rw [List.length_append]; omega) hB4 H3.out.1; clear hwc hwl1 hB4 hds hdl hb4)
          | (go_at_call 44; refine hwc1.mono ?_; rintro e W4 ⟨rfl, hB5, hb5⟩))
        go_ret
        refine ⟨rfl, cs ++ (ds ++ [46]), by simpa using hB5, (fun h => by rw [H3.out.2.1 h]; first | done | rfl), ?_, H3.out.1.trans hb5⟩
        have := H2.out.2
        have := H3.out.2.2
        have := H256.out
        simp only [List.length_append, List.length_cons, List.length_nil]
        omega
      · rw [if_neg h0]
        have h0i : (0 : Int) < (n : Int) := by omega
        clear h0
        go_enter Tryz.func33, Tryz.ntmps33
        go_wp2_with (first
          | (go_at_call 50; refine hwa.mono ?_; rintro e W2 ⟨rfl, cs, hB3, hcs, hcl, hb3⟩; obtain rfl := hcs rfl; obtain ⟨d0, d1, d2⟩ := rule_cells hbl hb3; have H2 : Hid (Wk B b (w.alloc (.cells #[.string p, .slice ha hn hcap, .slice a n cap] 48)) W2 ∧ cs.length ≤ 66000) := ⟨hb3, hcl⟩; have hws1 := hws W2 _ hcl hB3 (HW.out.trans hb3); clear hws hB3 hcs hcl hb3)
          | (go_at_call 42; refine hws1.mono ?_; rintro e W5 ⟨rfl, hB6, hb6⟩; obtain ⟨f0, f1, f2⟩ := rule_cells hbl (H2.out.1.trans hb6); have H5 : Hid (Wk B b w W5) := HW.out.trans (H2.out.1.trans hb6); rw [List.append_assoc] at hB6; have hwl1 := hwl W5 _ (by have := H2.out.2; simp only [List.length_append, List.length_cons, List.length_nil]; omega) hB6 H5.out; clear hwl hws1 hB6 hb6)
          | (go_at_call 51; refine hwl1.mono ?_; rintro e W3 ⟨rfl, ds, hB4, hds, hdl, hb4⟩; have H3 : Hid (Wk B b w W3 ∧ (lok = true → ds = ltx) ∧ ds.length ≤ n * (66010 + 2)) := ⟨H5.out.trans hb4, hds, hdl⟩; rw [List.append_assoc] at hB4; have hwc1 := hwc W3 _ (by have := H2.out.2; have := H3.out.2.2; have := H256.out; simp only [List.length_append, List.length_cons, List.length_nil]; omega) hB4 H3.out.1; clear hwc hwl1 hB4 hds hdl hb4)
          | (go_at_call 44; refine hwc1.mono ?_; rintro e W4 ⟨rfl, hB5, hb5⟩))
        go_ret
        refine ⟨rfl, cs ++ ([32, 58, 45, 32] ++ (ds ++ [46])), by simpa using hB5, (fun h => by rw [H3.out.2.1 h]; rfl), ?_, H3.out.1.trans hb5⟩
        have := H2.out.2
        have := H3.out.2.2
        have := H256.out
        simp only [List.length_append, List.length_cons, List.length_nil]
        omega
  · rw [decide_eq_false h256]
    have h256i : (256 : Int) < (ls.length : Int) := by omega
    simp only [Bool.false_and]
    generalize (At.txt _ ++ _) = tx
    clear h256 hwa
    go_enter Tryz.func33, Tryz.ntmps33
    go_wp2_with fail
    go_ret
    exact ⟨rfl, [], by simpa using HB.out, (fun h => nomatch h), by simp, HW.out⟩

theorem sure_of_stay {B b : Nat} {w W : World} {P : World → Prop} (hP : ∀ w', Stay w w' → P w') (hS : Stay w W) (hB : w.heap.size ≤ B) : Sure B b W P := fun _ hw => hP _ (Below.trans hS (hw.1.mono hB))
set_option maxRecDepth 100000 in
set_option maxHeartbeats 2000000 in
theorem writtenR_any (x : Ru) (w : World) (hM : x.In w) (hT : Tabs w) : Calls Tryz.prog 37 #[x.v, .func (.func 33) #[] #[]] w fun e w' => e = .returned (tellT x.ok x.txt) ∧ Stay w w' := by
  have hN : Stay w (w.alloc (.cells #[.string x.head.pred, x.head.sl, .slice x.a x.body.length x.cap] 48)) := Stay.new w _
  have hF := fresh_bld0 (w.alloc (.cells #[.string x.head.pred, x.head.sl, .slice x.a x.body.length x.cap] 48))
  have hN2 : Stay (w.alloc (.cells #[.string x.head.pred, x.head.sl, .slice x.a x.body.length x.cap] 48)) _ := Stay.new (w.alloc (.cells #[.string x.head.pred, x.head.sl, .slice x.a x.body.length x.cap] 48)) (.cells #[.pointer none, .slice none 0 0] 72)
  rw [show (w.alloc (.cells #[.string x.head.pred, x.head.sl, .slice x.a x.body.length x.cap] 48)).heap.size = w.heap.size + 1 from by simp] at hF
  have HS : Hid (Stay w ((w.alloc (.cells #[.string x.head.pred, x.head.sl, .slice x.a x.body.length x.cap] 48)).alloc (.cells #[.pointer none, .slice none 0 0] 72))) := hN.trans hN2
  have hw := writeRule_any hF x (sure_of_stay (fun _ h => Ru.stay hM h) HS.out (Nat.le_succ _)) (sure_of_stay (fun _ h => hT.stay h) HS.out (Nat.le_succ _)) (by simp) (by simp)
  obtain ⟨⟨p, ha, hbk, hof, hcap, hts⟩, a, bk, off, cap, ls⟩ := x
  unfold Ru.v At.sl at *
  unfold tellT
  dsimp only at *
  generalize Ru.ok _ = ok at *
  generalize Ru.txt _ = txt at *
  generalize hts.length = hn at *
  generalize ls.length = n at *
  clear hF hN hN2 hT hM
  cases ok
  · simp only [Bool.false_eq_true, if_false]
    go_enter Tryz.func37, Tryz.ntmps37
    go_wp2_with (first
      | (go_at_call 33; refine hw.mono ?_; rintro e W1 ⟨rfl, cs, hB1, hcs, hcl, hb1⟩))
    go_ret2
    exact ⟨rfl, Below.trans HS.out (hb1.1.mono (Nat.le_succ _))⟩
  · simp only [if_true]
    go_enter Tryz.func37, Tryz.ntmps37
    go_wp2_with (first
      | (go_at_call 33; refine hw.mono ?_; rintro e W1 ⟨rfl, cs, hB1, hcs, hcl, hb1⟩; obtain rfl := hcs rfl; have w2 := Bld.strOk hB1 (Nat.le_trans (by simp) hb1.size); have HB1 : Hid (Wk _ _ _ W1) := hb1; clear hb1 hB1)
      | (go_at_call 24; refine w2.mono ?_; rintro e W2 ⟨rfl, hb2⟩))
    go_ret2
    exact ⟨by simp, Below.trans HS.out ((HB1.out.1.trans hb2).mono (Nat.le_succ _))⟩
theorem pRule_any (x : Ru) (w : World) (hM : x.In w) (hT : Tabs w) : Calls Tryz.prog 18 #[x.v] w fun e w' => e = .returned (tellT x.ok x.txt) ∧ Stay w w' := by
  have hN : Stay w (w.alloc (.cells #[.string x.head.pred, x.head.sl, .slice x.a x.body.length x.cap] 48)) := Stay.new w _
  have hw := writtenR_any x _ (Ru.stay hM hN) (hT.stay hN)
  have HS : Hid (Stay w (w.alloc (.cells #[.string x.head.pred, x.head.sl, .slice x.a x.body.length x.cap] 48))) := hN
  obtain ⟨⟨p, ha, hbk, hof, hcap, hts⟩, a, bk, off, cap, ls⟩ := x
  unfold Ru.v At.sl at *
  unfold tellT at *
  dsimp only at *
  generalize (if Ru.ok _ = true then Ru.txt _ else []).toArray = x at *
  generalize (if Ru.ok _ = true then (0 : Int) else 2) = y at *
  generalize hts.length = hn at *
  generalize ls.length = n at *
  clear hT hM hN
  go_enter Tryz.func18, Tryz.ntmps18
  go_wp2_with (first
    | (go_at_call 37; refine hw.mono ?_; rintro e W1 ⟨rfl, hs1⟩))
  go_ret2
  exact ⟨rfl, HS.out.trans hs1⟩

/-- The small rule of known. -/
def knownR (n : Nat) : Ru := ⟨⟨⟨#[112]⟩, some ⟨n, 0, none⟩, n, 0, 2, [⟨true, ⟨#[88]⟩⟩, ⟨false, ⟨#[65]⟩⟩]⟩, some ⟨n + 1, 0, none⟩, n + 1, 0, 1, [⟨2, ⟨⟨#[113]⟩, none, 0, 0, 0, []⟩, ⟨false, ⟨#[]⟩⟩, ⟨false, ⟨#[]⟩⟩⟩]⟩
set_option maxRecDepth 100000 in
theorem known_ok (n : Nat) : (knownR n).ok = true := by
  show Ru.ok (knownR 0) = true
  decide +kernel
set_option maxRecDepth 100000 in
theorem known_txt (n : Nat) : (knownR n).txt = [112, 40, 88, 44, 32, 34, 65, 34, 41, 32, 58, 45, 32, 110, 111, 116, 32, 113, 46] := by
  show Ru.txt (knownR 0) = _
  decide +kernel
/-- The blocks that known lays. -/
def knownW (w : World) : World := ((w.alloc (.cells #[.bool true, .string ⟨#[88]⟩, .bool false, .string ⟨#[65]⟩] 54)).alloc (.cells #[.int .i64 2, .string ⟨#[113]⟩, .slice none 0 0, .bool false, .string ⟨#[]⟩, .bool false, .string ⟨#[]⟩] 57)).alloc (.cells #[.string ⟨#[112]⟩, .slice (some ⟨w.heap.size, 0, none⟩) 2 2, .slice (some ⟨w.heap.size + 1, 0, none⟩) 1 1] 48)
theorem knownW_stay (w : World) : Stay w (knownW w) := ((Stay.new w _).trans (Stay.new _ _)).trans (Stay.new _ _)
theorem known_in (w : World) : (knownR w.heap.size).In (knownW w) := by
  have b0 : (knownW w).heap[w.heap.size]? = some (.cells #[.bool true, .string ⟨#[88]⟩, .bool false, .string ⟨#[65]⟩] 54 (0, 0)) :=
    (((Stay.new _ _).trans (Stay.new _ _)).block _ (by simp)).trans (heap_new w _)
  have b1 : (knownW w).heap[w.heap.size + 1]? = some (.cells #[.int .i64 2, .string ⟨#[113]⟩, .slice none 0 0, .bool false, .string ⟨#[]⟩, .bool false, .string ⟨#[]⟩] 57 (0, 0)) := by
    have h := heap_new (w.alloc (.cells #[.bool true, .string ⟨#[88]⟩, .bool false, .string ⟨#[65]⟩] 54)) (.cells #[.int .i64 2, .string ⟨#[113]⟩, .slice none 0 0, .bool false, .string ⟨#[]⟩, .bool false, .string ⟨#[]⟩] 57)
    rw [show (w.alloc (.cells #[.bool true, .string ⟨#[88]⟩, .bool false, .string ⟨#[65]⟩] 54)).heap.size = w.heap.size + 1 from by simp] at h
    exact ((Stay.new _ _).block _ (by simp)).trans h
  refine ⟨⟨fun _ => rfl, fun j hj => ?_⟩, fun _ => rfl, fun j hj => ?_⟩
  · match j, hj with
    | 0, _ => exact ⟨(Lib.cell_of_heap b0 0).trans rfl, (Lib.cell_of_heap b0 1).trans rfl⟩
    | 1, _ => exact ⟨(Lib.cell_of_heap b0 2).trans rfl, (Lib.cell_of_heap b0 3).trans rfl⟩
  · match j, hj with
    | 0, _ => exact ⟨(Lib.cell_of_heap b1 0).trans rfl, (Lib.cell_of_heap b1 1).trans rfl, (Lib.cell_of_heap b1 2).trans rfl, (Lib.cell_of_heap b1 3).trans rfl, (Lib.cell_of_heap b1 4).trans rfl, (Lib.cell_of_heap b1 5).trans rfl, (Lib.cell_of_heap b1 6).trans rfl, TmsS.nil _ _ _ _⟩
set_option maxRecDepth 100000 in
theorem known_any (w : World) (hT : Tabs w) : Calls Tryz.prog 8 #[] w fun e w' => e = .returned (.bool true) ∧ Stay w w' := by
  have hw := pRule_any (knownR w.heap.size) (knownW w) (known_in w) (hT.stay (knownW_stay w))
  rw [known_ok, known_txt] at hw
  have HS : Hid (Stay w (knownW w)) := knownW_stay w
  have e1 : (knownR w.heap.size).v = .agg #[.string ⟨#[112]⟩, .slice (some ⟨w.heap.size, 0, none⟩) 2 2, .slice (some ⟨w.heap.size + 1, 0, none⟩) 1 1] := rfl
  rw [e1] at hw
  unfold knownW at *
  unfold tellT at hw
  simp only [if_true] at hw
  clear e1 hT
  go_enter Tryz.func8, Tryz.ntmps8
  go_wp2_with (first
    | (go_at_call 18; refine hw.mono ?_; rintro e W1 ⟨rfl, hs1⟩))
  go_ret
  exact ⟨rfl, HS.out.trans hs1⟩
end Go.Proofs.YtiobhadchakoiaaGreatDoor
