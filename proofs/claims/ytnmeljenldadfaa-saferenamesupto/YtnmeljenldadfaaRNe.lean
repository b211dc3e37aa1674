/- SafeRenames' walk. -/
import Derived.Test.YtnmeljenldadfaaRNd
import Derived.Test.YtnmeljenldadfaaEM
import Derived.Test.YtnmeljenldadfaaEW
import Derived.Test.YtnmeljenldadfaaQN
import Derived.OwnWalk
namespace Go.Proofs.Ytnmeljenldadfaa
open Go.RowKit Go.Maps Go.Shelf

theorem wayL_ren {m : ByteArray} {us vs : List Li} (h : rens m us vs) : wayOk us = wayOk vs ∧ wayL us = wayL vs := by
  have h1 : wayOk us = wayOk vs := wayOkB_ren h
  refine ⟨h1, ?_⟩
  unfold wayL
  rw [h1, bindP_ren h, h.1, takeN_ren h]
theorem six_keep {W W' : World} {b1 b2 : Nat} {c0 c1 c2 d0 d1 d2 : Value} (h : W.cell? ⟨b1, 0, none⟩ = some c0 ∧ W.cell? ⟨b1, 1, none⟩ = some c1 ∧ W.cell? ⟨b1, 2, none⟩ = some c2 ∧ W.cell? ⟨b2, 0, none⟩ = some d0 ∧ W.cell? ⟨b2, 1, none⟩ = some d1 ∧ W.cell? ⟨b2, 2, none⟩ = some d2) (hs : Stay W W') :
    W'.cell? ⟨b1, 0, none⟩ = some c0 ∧ W'.cell? ⟨b1, 1, none⟩ = some c1 ∧ W'.cell? ⟨b1, 2, none⟩ = some c2 ∧ W'.cell? ⟨b2, 0, none⟩ = some d0 ∧ W'.cell? ⟨b2, 1, none⟩ = some d1 ∧ W'.cell? ⟨b2, 2, none⟩ = some d2 :=
  ⟨hs.cell h.1, hs.cell h.2.1, hs.cell h.2.2.1, hs.cell h.2.2.2.1, hs.cell h.2.2.2.2.1, hs.cell h.2.2.2.2.2⟩

theorem nvars (x : Ru) (V : World) (h : x.fit V) : Calls Try.prog 9 #[x.v] V fun e w' => ∃ a b c, e = .returned (.slice a (onceN (placesR x)).length c) ∧ RecS 1 encSt w' a b 0 (onceN (placesR x)) ∧ Stay V w' := by
  refine (sVars_any x V h).mono fun e w' ⟨a, c, he, hO, hs⟩ => ?_
  obtain ⟨va, b, vc, hv, hR, -⟩ := hO.form encStOk
  simp only [Value.slice.injEq] at hv
  obtain ⟨rfl, -, rfl⟩ := hv
  exact ⟨a, b, c, he, hR, hs⟩
theorem nbound (x : Ru) (V : World) (h : x.fit V) : Calls Try.prog 10 #[.slice x.a x.body.length x.cap] V fun e w' => ∃ a b c, e = .returned (.slice a (onceN (bindP x.body)).length c) ∧ RecS 1 encSt w' a b 0 (onceN (bindP x.body)) ∧ Stay V w' := by
  refine (sBound_any x V h).mono fun e w' ⟨a, c, he, hO, hs⟩ => ?_
  obtain ⟨va, b, vc, hv, hR, -⟩ := hO.form encStOk
  simp only [Value.slice.injEq] at hv
  obtain ⟨rfl, -, rfl⟩ := hv
  exact ⟨a, b, c, he, hR, hs⟩
theorem nway (x : Ru) (V : World) (h : x.fit V) : Calls Try.prog 11 #[x.v] V fun e w' => ∃ a b c, e = .returned (.tuple #[.slice a (wayL x.body).length c, .bool (wayOk x.body)]) ∧ RecS 1 encI w' a b 0 (wayL x.body) ∧ Stay V w' := by
  refine (way_any x V h).mono fun e w' ⟨a, c, he, hO, hs⟩ => ?_
  obtain ⟨va, b, vc, hv, hR, -⟩ := hO.form encIOk
  simp only [Value.slice.injEq] at hv
  obtain ⟨rfl, -, rfl⟩ := hv
  exact ⟨a, b, c, he, hR, hs⟩

set_option maxRecDepth 100000 in
set_option maxHeartbeats 4000000 in
theorem safeRenames_walk (x : Ru) (m : ByteArray) (w : World) (hx : x.fit w) (hs : x.shortBy m.size) (hm : m.size ≤ 1048576) (hv : (onceN (placesR x)).length ≤ 4294967296) (hb : (onceN (bindP x.body)).length ≤ 4294967296) (hw : (wayL x.body).length ≤ 4294967296) :
    Calls Try.prog 5 #[x.v, .string m] w fun e w' => e = .returned (.bool true) ∧ Stay w w' := by
  obtain ⟨w0, hw0⟩ : ∃ w0, w0 = w.alloc (.cells #[.string x.head.pred, x.head.sl, .slice x.a x.body.length x.cap] 27) := ⟨_, rfl⟩
  have s0 : Stay w w0 := by rw [hw0]; exact Stay.new _ _
  have hb0 : w0.heap[w.heap.size]? = some (.cells #[.string x.head.pred, x.head.sl, .slice x.a x.body.length x.cap] 27 (0, 0)) := by rw [hw0]; exact heap_new _ _
  have hkn := known_any
  have hrn := renamed_any x m w0 (hx.stay s0) hs hm
  have hshort : ∀ s ∈ onceN (placesR x), s.size ≤ 1048576 := fun s h => by
    unfold onceN at h
    rw [new_names] at h
    obtain ⟨p, hp, rfl⟩ := namesP_mem.1 h
    exact placesR_short hx.shorts p hp
  have hshort2 : ∀ s ∈ onceN (bindP x.body), s.size ≤ 1048576 := fun s h => by
    unfold onceN at h
    rw [new_names] at h
    obtain ⟨p, hp, rfl⟩ := namesP_mem.1 h
    exact placesB_short hx.shorts.2 p (sel_mem hp)
  have hnml : (ruleN x).size ≤ 1048576 := by
    unfold ruleN
    cases hl : looseP x with
    | nil => exact Nat.zero_le _
    | cons p ps => exact placesR_short hx.shorts p (sel_mem (sel_mem (show p ∈ looseP x by rw [hl]; exact List.mem_cons_self)))
  have HX : Hid (x.fit w0 ∧ Stay w w0 ∧ x.shortBy m.size) := ⟨hx.stay s0, s0, hs⟩
  obtain ⟨R, hR⟩ : ∃ R : Ending → World → Prop, R = fun e w' => e = .returned (.bool true) ∧ Stay w w' := ⟨_, rfl⟩
  rw [← hR]
  have HR : Hid (R = fun e w' => e = .returned (.bool true) ∧ Stay w w') := hR
  clear hx hs s0 hR
  dsimp only [Ru.v, At.sl] at *
  have k0 : w0.cell? ⟨w.heap.size, 0, none⟩ = some (.string x.head.pred) ∧ w0.cell? ⟨w.heap.size, 1, none⟩ = some (.slice x.head.a x.head.ts.length x.head.cap) ∧ w0.cell? ⟨w.heap.size, 2, none⟩ = some (.slice x.a x.body.length x.cap) := by simp [World.cell?, hb0]
  obtain ⟨e0, e1, e2⟩ := k0
  have HK : Hid (w0.cell? ⟨w.heap.size, 0, none⟩ = some (.string x.head.pred) ∧ w0.cell? ⟨w.heap.size, 1, none⟩ = some (.slice x.head.a x.head.ts.length x.head.cap) ∧ w0.cell? ⟨w.heap.size, 2, none⟩ = some (.slice x.a x.body.length x.cap)) := ⟨e0, e1, e2⟩
  rw [hw0] at e0 e1 e2
  clear hb0
  go_enter Try.func5, Try.ntmps5
  go_wp2_with (go_at_call 28; rw [← hw0]; refine hrn.mono ?_; rintro e W1 ⟨y, rfl, hry, hiy, s1⟩; clear hrn e0 e1 e2 hw0)
  obtain ⟨w1, hw1⟩ : ∃ w1, w1 = W1.alloc (.cells #[.string y.head.pred, .slice y.head.a y.head.ts.length y.head.cap, .slice y.a y.body.length y.cap] 27) := ⟨_, rfl⟩
  have t1 : Stay W1 w1 := by rw [hw1]; exact Stay.new _ _
  have hb1 : w1.heap[W1.heap.size]? = some (.cells #[.string y.head.pred, .slice y.head.a y.head.ts.length y.head.cap, .slice y.a y.body.length y.cap] 27 (0, 0)) := by rw [hw1]; exact heap_new _ _
  have s01 : Stay w0 w1 := s1.trans t1
  have hS : w1.drew.cell? ⟨w.heap.size, 0, none⟩ = some (.string x.head.pred) ∧ w1.drew.cell? ⟨w.heap.size, 1, none⟩ = some (.slice x.head.a x.head.ts.length x.head.cap) ∧ w1.drew.cell? ⟨w.heap.size, 2, none⟩ = some (.slice x.a x.body.length x.cap) ∧ w1.drew.cell? ⟨W1.heap.size, 0, none⟩ = some (.string y.head.pred) ∧ w1.drew.cell? ⟨W1.heap.size, 1, none⟩ = some (.slice y.head.a y.head.ts.length y.head.cap) ∧ w1.drew.cell? ⟨W1.heap.size, 2, none⟩ = some (.slice y.a y.body.length y.cap) := by
    refine ⟨s01.cell HK.out.1, s01.cell HK.out.2.1, s01.cell HK.out.2.2, ?_⟩
    show w1.cell? _ = _ ∧ w1.cell? _ = _ ∧ w1.cell? _ = _
    simp [World.cell?, hb1]
  have fx : x.fit w1 := HX.out.1.stay s01
  have fy : y.fit w1 := (ren_fit HX.out.1 HX.out.2.2 hry hiy).stay t1
  obtain ⟨vs, hvs⟩ : ∃ vs, vs = onceN (placesR x) := ⟨_, rfl⟩
  obtain ⟨bd, hbd⟩ : ∃ bd, bd = onceN (bindP x.body) := ⟨_, rfl⟩
  obtain ⟨way, hway⟩ : ∃ way, way = wayL x.body := ⟨_, rfl⟩
  obtain ⟨ok, hok⟩ : ∃ ok, ok = wayOk x.body := ⟨_, rfl⟩
  obtain ⟨nm, hnm⟩ : ∃ nm, nm = ruleN x := ⟨_, rfl⟩
  obtain ⟨nm2, hnm2⟩ : ∃ nm2, nm2 = ruleN y := ⟨_, rfl⟩
  obtain ⟨rb, hrb⟩ : ∃ rb, rb = ruleB x := ⟨_, rfl⟩
  have HNM : Hid (rb = false → nm2 = nm ++ m) := fun h => by rw [hnm2, hnm]; exact ruleN_ren hry (by rw [← hrb]; exact h)
  obtain ⟨n1, hn1⟩ : ∃ n1, n1 = vs.length := ⟨_, rfl⟩
  obtain ⟨n2, hn2⟩ : ∃ n2, n2 = bd.length := ⟨_, rfl⟩
  obtain ⟨n3, hn3⟩ : ∃ n3, n3 = way.length := ⟨_, rfl⟩
  have ev : onceN (placesR y) = vs.map (· ++ m) := by rw [placesR_ren hry, onceN_ren, hvs]
  have eb : onceN (bindP y.body) = bd.map (· ++ m) := by rw [bindP_ren hry.2, onceN_ren, hbd]
  have hvx := fun V (hV : Stay w1 V) => nvars x V (fx.stay hV)
  have hvy := fun V (hV : Stay w1 V) => nvars y V (fy.stay hV)
  have hbx := fun V (hV : Stay w1 V) => nbound x V (fx.stay hV)
  have hby := fun V (hV : Stay w1 V) => nbound y V (fy.stay hV)
  have hwx := fun V (hV : Stay w1 V) => nway x V (fx.stay hV)
  have hwy := fun V (hV : Stay w1 V) => nway y V (fy.stay hV)
  have hrx := fun V (hV : Stay w1 V) => rule_fit x V (fx.stay hV)
  have hry2 := fun V (hV : Stay w1 V) => rule_fit y V (fy.stay hV)
  rw [ev] at hvy
  rw [eb] at hby
  rw [(wayL_ren hry.2).1, (wayL_ren hry.2).2] at hwy
  rw [ruleB_ren hry] at hry2
  rw [← hvs] at hvx hshort hv
  rw [← hbd] at hbx hshort2 hb
  rw [← hway, ← hok] at hwx hwy
  rw [← hway] at hw
  rw [← hnm, ← hrb] at hrx
  rw [← hnm2, ← hrb] at hry2
  rw [← hnm] at hnml
  rw [← hn1] at hvx hv
  rw [List.length_map, ← hn1] at hvy
  rw [← hn2] at hbx hb
  rw [List.length_map, ← hn2] at hby
  rw [← hn3] at hwx hwy hw
  have HN : Hid (n1 = vs.length ∧ n2 = bd.length ∧ n3 = way.length) := ⟨hn1, hn2, hn3⟩
  have HSH : Hid ((∀ s ∈ vs, s.size ≤ 1048576) ∧ ∀ s ∈ bd, s.size ≤ 1048576) := ⟨hshort, hshort2⟩
  have H01 : Hid (Stay w w1) := HX.out.2.1.trans s01
  clear hn1 hn2 hn3 ev eb hvs hbd hway hok hnm hnm2 hrb fx fy hb1 hry hiy s1 t1 s01 HX HK hshort hshort2
  dsimp only [Ru.v, At.sl] at *
  have en1 : ∀ args w, (callFunc 9 args).run Try.prog w = .ok (.enter 9 args) w := enters_of Try.func9 (by kernel_rfl) rfl
  have en2 : ∀ args w, (callFunc 10 args).run Try.prog w = .ok (.enter 10 args) w := enters_of Try.func10 (by kernel_rfl) rfl
  rw [← hw1]
  clear hw1
  refine region_wpH (S := fun W => W.cell? ⟨w.heap.size, 0, none⟩ = some (.string x.head.pred) ∧ W.cell? ⟨w.heap.size, 1, none⟩ = some (.slice x.head.a x.head.ts.length x.head.cap) ∧ W.cell? ⟨w.heap.size, 2, none⟩ = some (.slice x.a x.body.length x.cap) ∧ W.cell? ⟨W1.heap.size, 0, none⟩ = some (.string y.head.pred) ∧ W.cell? ⟨W1.heap.size, 1, none⟩ = some (.slice y.head.a y.head.ts.length y.head.cap) ∧ W.cell? ⟨W1.heap.size, 2, none⟩ = some (.slice y.a y.body.length y.cap)) (by kernel_rfl) ?_
  --@2@
  refine wpAnyH_take (i := 0) (v := .agg #[.string x.head.pred, .slice x.head.a x.head.ts.length x.head.cap, .slice x.a x.body.length x.cap]) rfl (by kernel_rfl) (by kernel_rfl) (by kernel_rfl) (fun _ _ _ h => h) (Or.inl ⟨by rfl, fun W hW => by obtain ⟨q0, q1, q2, q3, q4, q5⟩ := hW; first | (go_simp; done) | (go_simp; with_reducible rfl)⟩) hS ?_
  refine wpAnyH_take (i := 2) (v := .agg #[.string y.head.pred, .slice y.head.a y.head.ts.length y.head.cap, .slice y.a y.body.length y.cap]) rfl (by kernel_rfl) (by kernel_rfl) (by kernel_rfl) (fun _ _ _ h => h) (Or.inl ⟨by rfl, fun W hW => by obtain ⟨q0, q1, q2, q3, q4, q5⟩ := hW; first | (go_simp; done) | (go_simp; with_reducible rfl)⟩) hS ?_
  refine wpAnyH_ready (rs := [1]) (by kernel_rfl) (by simp) (AllReadyH.cons (o := { dst := some 24, op := Op.call { callee := Callee.value (Operand.func 9), args := #[Operand.tmp 23], argTypes := #[27] }, type := 28, pos := "outright.go:46", after := #[{ on := 0, ground := Ground.data }], guard := none }) rfl (fun K hK => ?_) AllReadyH.nil)
  refine step_goG (by rfl) 9 _ _ rfl (args := #[.agg #[.string x.head.pred, .slice x.head.a x.head.ts.length x.head.cap, .slice x.a x.body.length x.cap]]) (by first | rfl | (simp [Act.eval]; done) | simp [Act.eval, Act.put]) en1 ?_
  refine (hvx _ (Stay.drew _)).mono ?_
  rintro e W2 ⟨a6, b6, c6, rfl, hR6, s2⟩
  have S2 : Hid (Stay w1 W2) := (Stay.drew w1).trans s2
  refine ⟨_, rfl, ?_⟩
  (try go_simp)
  refine hK.out _ _ (six_keep hS s2) (fun hS => ?_)
  clear hK K
  refine wpAnyH_ready (rs := [3]) (by kernel_rfl) (by simp) (AllReadyH.cons (o := { dst := some 26, op := Op.call { callee := Callee.value (Operand.func 9), args := #[Operand.tmp 25], argTypes := #[27] }, type := 28, pos := "outright.go:46", after := #[{ on := 2, ground := Ground.data }, { on := 1, ground := Ground.chain }], guard := none }) rfl (fun K hK => ?_) AllReadyH.nil)
  refine step_goG (by rfl) 9 _ _ rfl (args := #[.agg #[.string y.head.pred, .slice y.head.a y.head.ts.length y.head.cap, .slice y.a y.body.length y.cap]]) (by first | rfl | (simp [Act.eval]; done) | simp [Act.eval, Act.put]) en1 ?_
  refine (hvy _ S2.out).mono ?_
  rintro e W3 ⟨a7, b7, c7, rfl, hR7, s3⟩
  refine ⟨_, rfl, ?_⟩
  (try go_simp)
  refine hK.out _ _ (six_keep hS s3) (fun hS => ?_)
  clear hK K
  refine wpAnyH_take (i := 4) (v := .slice a6 n1 c6) rfl (by kernel_rfl) (by kernel_rfl) (by kernel_rfl) (fun _ _ _ h => h) (Or.inl ⟨by rfl, fun W _ => by first | (go_simp; done) | (go_simp; with_reducible rfl)⟩) hS ?_
  refine wpAnyH_take (i := 5) (v := .slice a7 n1 c7) rfl (by kernel_rfl) (by kernel_rfl) (by kernel_rfl) (fun _ _ _ h => h) (Or.inl ⟨by rfl, fun W _ => by first | (go_simp; done) | (go_simp; with_reducible rfl)⟩) hS ?_
  refine wpAnyH_done (by kernel_rfl) ?_ _
  unfold normQ
  have H3 : Hid (Stay w1 W3 ∧ RecS 1 encSt W3 a6 b6 0 vs ∧ RecS 1 encSt W3 a7 b7 0 (vs.map (· ++ m))) := ⟨S2.out.trans s3, hR6.stay s3, hR7⟩
  have HS3 := hS
  clear hS hvx hvy S2 s2 s3 hR6 hR7 en1
  go_wp2_with fail
  --@2.@
  have hS : W3.drew.cell? ⟨w.heap.size, 0, none⟩ = some (.string x.head.pred) ∧ W3.drew.cell? ⟨w.heap.size, 1, none⟩ = some (.slice x.head.a x.head.ts.length x.head.cap) ∧ W3.drew.cell? ⟨w.heap.size, 2, none⟩ = some (.slice x.a x.body.length x.cap) ∧ W3.drew.cell? ⟨W1.heap.size, 0, none⟩ = some (.string y.head.pred) ∧ W3.drew.cell? ⟨W1.heap.size, 1, none⟩ = some (.slice y.head.a y.head.ts.length y.head.cap) ∧ W3.drew.cell? ⟨W1.heap.size, 2, none⟩ = some (.slice y.a y.body.length y.cap) := HS3
  refine region_wpH (S := fun W => W.cell? ⟨w.heap.size, 0, none⟩ = some (.string x.head.pred) ∧ W.cell? ⟨w.heap.size, 1, none⟩ = some (.slice x.head.a x.head.ts.length x.head.cap) ∧ W.cell? ⟨w.heap.size, 2, none⟩ = some (.slice x.a x.body.length x.cap) ∧ W.cell? ⟨W1.heap.size, 0, none⟩ = some (.string y.head.pred) ∧ W.cell? ⟨W1.heap.size, 1, none⟩ = some (.slice y.head.a y.head.ts.length y.head.cap) ∧ W.cell? ⟨W1.heap.size, 2, none⟩ = some (.slice y.a y.body.length y.cap)) (by kernel_rfl) ?_
  --@3@
  refine wpAnyH_take (i := 0) (v := .pointer (some ⟨w.heap.size, 2, none⟩)) rfl (by kernel_rfl) (by kernel_rfl) (by kernel_rfl) (fun _ _ _ h => h) (Or.inl ⟨by rfl, fun W _ => by first | (go_simp; done) | (go_simp; with_reducible rfl)⟩) hS ?_
  refine wpAnyH_take (i := 1) (v := .slice x.a x.body.length x.cap) rfl (by kernel_rfl) (by kernel_rfl) (by kernel_rfl) (fun _ _ _ h => h) (Or.inl ⟨by rfl, fun W hW => by obtain ⟨q0, q1, q2, q3, q4, q5⟩ := hW; first | (go_simp; done) | (go_simp; with_reducible rfl)⟩) hS ?_
  refine wpAnyH_take (i := 3) (v := .pointer (some ⟨W1.heap.size, 2, none⟩)) rfl (by kernel_rfl) (by kernel_rfl) (by kernel_rfl) (fun _ _ _ h => h) (Or.inl ⟨by rfl, fun W _ => by first | (go_simp; done) | (go_simp; with_reducible rfl)⟩) hS ?_
  refine wpAnyH_take (i := 4) (v := .slice y.a y.body.length y.cap) rfl (by kernel_rfl) (by kernel_rfl) (by kernel_rfl) (fun _ _ _ h => h) (Or.inl ⟨by rfl, fun W hW => by obtain ⟨q0, q1, q2, q3, q4, q5⟩ := hW; first | (go_simp; done) | (go_simp; with_reducible rfl)⟩) hS ?_
  refine wpAnyH_ready (rs := [2]) (by kernel_rfl) (by simp) (AllReadyH.cons (o := { dst := some 29, op := Op.call { callee := Callee.value (Operand.func 10), args := #[Operand.tmp 28], argTypes := #[25] }, type := 28, pos := "outright.go:47", after := #[{ on := 1, ground := Ground.data }], guard := none }) rfl (fun K hK => ?_) AllReadyH.nil)
  refine step_goG (by rfl) 10 _ _ rfl (args := #[.slice x.a x.body.length x.cap]) (by first | rfl | (simp [Act.eval]; done) | simp [Act.eval, Act.put]) en2 ?_
  refine (hbx _ (H3.out.1.trans (Stay.drew _))).mono ?_
  rintro e W4 ⟨a8, b8, c8, rfl, hR8, s4⟩
  have S4 : Hid (Stay W3 W4) := (Stay.drew W3).trans s4
  refine ⟨_, rfl, ?_⟩
  (try go_simp)
  refine hK.out _ _ (six_keep hS s4) (fun hS => ?_)
  clear hK K
  refine wpAnyH_ready (rs := [5]) (by kernel_rfl) (by simp) (AllReadyH.cons (o := { dst := some 32, op := Op.call { callee := Callee.value (Operand.func 10), args := #[Operand.tmp 31], argTypes := #[25] }, type := 28, pos := "outright.go:47", after := #[{ on := 4, ground := Ground.data }, { on := 2, ground := Ground.chain }], guard := none }) rfl (fun K hK => ?_) AllReadyH.nil)
  refine step_goG (by rfl) 10 _ _ rfl (args := #[.slice y.a y.body.length y.cap]) (by first | rfl | (simp [Act.eval]; done) | simp [Act.eval, Act.put]) en2 ?_
  refine (hby _ (H3.out.1.trans S4.out)).mono ?_
  rintro e W5 ⟨a9, b9, c9, rfl, hR9, s5⟩
  refine ⟨_, rfl, ?_⟩
  (try go_simp)
  refine hK.out _ _ (six_keep hS s5) (fun hS => ?_)
  clear hK K
  refine wpAnyH_take (i := 6) (v := .slice a8 n2 c8) rfl (by kernel_rfl) (by kernel_rfl) (by kernel_rfl) (fun _ _ _ h => h) (Or.inl ⟨by rfl, fun W _ => by first | (go_simp; done) | (go_simp; with_reducible rfl)⟩) hS ?_
  refine wpAnyH_take (i := 7) (v := .slice a9 n2 c9) rfl (by kernel_rfl) (by kernel_rfl) (by kernel_rfl) (fun _ _ _ h => h) (Or.inl ⟨by rfl, fun W _ => by first | (go_simp; done) | (go_simp; with_reducible rfl)⟩) hS ?_
  refine wpAnyH_done (by kernel_rfl) ?_ _
  unfold normQ
  have H5 : Hid (Stay w1 W5 ∧ RecS 1 encSt W5 a6 b6 0 vs ∧ RecS 1 encSt W5 a7 b7 0 (vs.map (· ++ m)) ∧ RecS 1 encSt W5 a8 b8 0 bd ∧ RecS 1 encSt W5 a9 b9 0 (bd.map (· ++ m))) := ⟨H3.out.1.trans (S4.out.trans s5), H3.out.2.1.stay (S4.out.trans s5), H3.out.2.2.stay (S4.out.trans s5), hR8.stay s5, hR9⟩
  have HS5 := hS
  clear hS hbx hby H3 S4 s4 s5 hR8 hR9 en2
  --@3.@
  have HC : Hid (∀ V, Stay W5 V → V.cell? ⟨w.heap.size, 0, none⟩ = some (.string x.head.pred) ∧ V.cell? ⟨w.heap.size, 1, none⟩ = some (.slice x.head.a x.head.ts.length x.head.cap) ∧ V.cell? ⟨w.heap.size, 2, none⟩ = some (.slice x.a x.body.length x.cap) ∧ V.cell? ⟨W1.heap.size, 0, none⟩ = some (.string y.head.pred) ∧ V.cell? ⟨W1.heap.size, 1, none⟩ = some (.slice y.head.a y.head.ts.length y.head.cap) ∧ V.cell? ⟨W1.heap.size, 2, none⟩ = some (.slice y.a y.body.length y.cap)) := fun V hV => six_keep HS5 hV
  obtain ⟨r0, r1, r2, y0, y1, y2⟩ := HS5
  go_wp2_with fail
  refine (hwx W5 H5.out.1).mono ?_
  rintro e W6 ⟨a10, b10, c10, rfl, hR10, s6⟩
  clear r0 r1 r2 y0 y1 y2 hwx
  obtain ⟨r0, r1, r2, y0, y1, y2⟩ := HC.out W6 s6
  have S6 : Hid (Stay W5 W6 ∧ RecS 1 encI W6 a10 b10 0 way) := ⟨s6, hR10⟩
  clear hR10 s6
  go_wp2_with fail
  refine (hwy W6 (H5.out.1.trans S6.out.1)).mono ?_
  rintro e W7 ⟨a11, b11, c11, rfl, hR11, s7⟩
  clear r0 r1 r2 y0 y1 y2 hwy
  have S7 : Hid (Stay W5 W7 ∧ RecS 1 encI W7 a10 b10 0 way ∧ RecS 1 encI W7 a11 b11 0 way) := ⟨S6.out.1.trans s7, S6.out.2.stay s7, hR11⟩
  clear hR11 s7 S6
  obtain ⟨r0, r1, r2, y0, y1, y2⟩ := HC.out W7 S7.out.1
  go_wp2_with fail
  refine (hrx W7 (H5.out.1.trans S7.out.1)).mono ?_
  rintro e W8 ⟨rfl, s8⟩
  clear r0 r1 r2 y0 y1 y2 hrx
  have S8 : Hid (Stay W7 W8 ∧ Stay W5 W8) := ⟨s8, S7.out.1.trans s8⟩
  clear s8
  obtain ⟨r0, r1, r2, y0, y1, y2⟩ := HC.out W8 S8.out.2
  go_wp2_with fail
  refine (hry2 W8 (H5.out.1.trans S8.out.2)).mono ?_
  rintro e W9 ⟨rfl, s9⟩
  clear r0 r1 r2 y0 y1 y2 hry2 HC
  have H9 : Hid (Stay w W9 ∧ RecS 1 encSt W9 a6 b6 0 vs ∧ RecS 1 encSt W9 a7 b7 0 (vs.map (· ++ m)) ∧ RecS 1 encSt W9 a8 b8 0 bd ∧ RecS 1 encSt W9 a9 b9 0 (bd.map (· ++ m))) :=
    have t := S8.out.2.trans s9
    ⟨H01.out.trans (H5.out.1.trans t), H5.out.2.1.stay t, H5.out.2.2.1.stay t, H5.out.2.2.2.1.stay t, H5.out.2.2.2.2.stay t⟩
  have hsi := sameInts_yes W9 a10 a11 b10 b11 0 0 c10 c11 way (S7.out.2.1.stay (S8.out.1.trans s9)) (S7.out.2.2.stay (S8.out.1.trans s9)) (by have := HN.out; omega)
  rw [← HN.out.2.2] at hsi
  clear s9 S7 S8 H5 H01
  go_upto_region 8 with fail
  go_cut [91] from 20 (fun vc wx => vc = .bool false ∧ Stay W9 wx)
  case first =>
    have hn11 : ((n1 : Int) != (n1 : Int)) = false := by simp
    have hn22 : ((n2 : Int) != (n2 : Int)) = false := by simp
    have hok : (ok != ok) = false := by simp
    cases rb
    · obtain rfl := HNM.out rfl
      have hsum : ¬ 9223372036854775807 < nm.size + m.size := by omega
      have heq : ((nm ++ m).toList != (nm ++ m).toList) = false := by simp
      clear hkn HNM HR HN HSH H9
      go_wp2_with (go_at_call 18; refine hsi.mono ?_; rintro e W10 ⟨rfl, s10⟩)
      go_meet
      case rel => exact ⟨by first | rfl | simp, s10⟩
    · clear hkn HNM HR HN HSH H9
      go_wp2_with (go_at_call 18; refine hsi.mono ?_; rintro e W10 ⟨rfl, s10⟩)
      go_meet
      case rel => exact ⟨by first | rfl | simp, s10⟩
  case rest =>
    obtain ⟨rfl, hwc⟩ := hcut
    have H10 : Hid (Stay w wc ∧ RecS 1 encSt wc a6 b6 0 vs ∧ RecS 1 encSt wc a7 b7 0 (vs.map (· ++ m)) ∧ RecS 1 encSt wc a8 b8 0 bd ∧ RecS 1 encSt wc a9 b9 0 (bd.map (· ++ m))) := ⟨H9.out.1.trans hwc, H9.out.2.1.stay hwc, H9.out.2.2.1.stay hwc, H9.out.2.2.2.1.stay hwc, H9.out.2.2.2.2.stay hwc⟩
    clear hwc H9 hsi HNM
    go_wp2_with fail
    go_loopw [18] (fun u wr => ∃ j : Nat, j ≤ n1 ∧ u = .int .i64 (j : Int) ∧ Stay wc wr) (fun u _ => n1 - (intOf u).toNat)
    case atStart => exact ⟨0, Nat.zero_le _, rfl, Stay.refl _⟩
    case round =>
      obtain ⟨j, hj, rfl, hst⟩ := hrel
      rename World => wv
      have HS : Hid (Stay wc wv) := hst
      clear hst
      by_cases hlt : j < n1
      · have hki : (j : Int) < (n1 : Int) := by omega
        have hjl : j < vs.length := by have := HN.out; omega
        have hjm : j < (vs.map (· ++ m)).length := by rw [List.length_map]; exact hjl
        obtain rfl := H10.out.2.1.1 (by omega)
        obtain rfl := H10.out.2.2.1.1 (by omega)
        have p0 := HS.out.cell (H10.out.2.1.2 j hjl 0 _ rfl)
        have q0 := HS.out.cell (H10.out.2.2.1.2 j hjm 0 _ rfl)
        simp only [Nat.mul_one, Nat.add_zero, Nat.zero_add, List.getElem_map] at p0 q0
        have hsz := HSH.out.1 _ (List.getElem_mem hjl)
        generalize vs[j] = t at *
        have hsum : ¬ 9223372036854775807 < t.size + m.size := by omega
        have heq : ((t ++ m).toList != (t ++ m).toList) = false := by simp
        clear hsz hjm
        go_wp2_with fail
        go_region
        go_wp2_with fail
        go_roundw
        case rel => exact ⟨j + 1, by omega, by simp, Below.drew HS.out⟩
        case measure => simp [intOf]; omega
      · obtain rfl : j = n1 := by omega
        have hge : ¬ (j : Int) < (j : Int) := by omega
        have HT : Hid (Stay wc wv) := HS.out
        clear hlt hj HS
        go_wp2_with fail
        go_loopw [19] (fun u wr => ∃ j : Nat, j ≤ n2 ∧ u = .int .i64 (j : Int) ∧ Stay wc wr) (fun u _ => n2 - (intOf u).toNat)
        case atStart => exact ⟨0, Nat.zero_le _, rfl, HT.out⟩
        case round =>
          obtain ⟨j, hj, rfl, hst⟩ := hrel
          rename World => wv
          have HS : Hid (Stay wc wv) := hst
          clear hst
          by_cases hlt : j < n2
          · have hki : (j : Int) < (n2 : Int) := by omega
            have hjl : j < bd.length := by have := HN.out; omega
            have hjm : j < (bd.map (· ++ m)).length := by rw [List.length_map]; exact hjl
            obtain rfl := H10.out.2.2.2.1.1 (by omega)
            obtain rfl := H10.out.2.2.2.2.1 (by omega)
            have p0 := HS.out.cell (H10.out.2.2.2.1.2 j hjl 0 _ rfl)
            have q0 := HS.out.cell (H10.out.2.2.2.2.2 j hjm 0 _ rfl)
            simp only [Nat.mul_one, Nat.add_zero, Nat.zero_add, List.getElem_map] at p0 q0
            have hsz := HSH.out.2 _ (List.getElem_mem hjl)
            generalize bd[j] = t at *
            have hsum : ¬ 9223372036854775807 < t.size + m.size := by omega
            have heq : ((t ++ m).toList != (t ++ m).toList) = false := by simp
            clear hsz hjm
            go_wp2_with fail
            go_region
            go_wp2_with fail
            go_roundw
            case rel => exact ⟨j + 1, by omega, by simp, Below.drew HS.out⟩
            case measure => simp [intOf]; omega
          · obtain rfl : j = n2 := by omega
            have hge : ¬ (j : Int) < (j : Int) := by omega
            go_wp2_with (go_at_call 22; refine (hkn _).mono ?_; rintro e w9 ⟨rfl, s99⟩)
            show R _ _
            rw [HR.out]
            exact ⟨rfl, (H10.out.1.trans HS.out).trans s99⟩
end Go.Proofs.Ytnmeljenldadfaa
