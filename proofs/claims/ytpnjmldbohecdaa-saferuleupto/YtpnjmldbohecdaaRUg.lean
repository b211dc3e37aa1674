/- SafeRule's walk. -/
import Derived.Test.YtpnjmldbohecdaaRUf
import Derived.Test.YtpnjmldbohecdaaRUh
namespace Go.Proofs.Ytpnjmldbohecdaa
open Go.RowKit Go.Maps Go.Shelf

theorem keep3 {W W' : World} {p0 p1 p2 : Addr} {c0 c1 c2 : Value} (h : W.cell? p0 = some c0 ∧ W.cell? p1 = some c1 ∧ W.cell? p2 = some c2) (hs : Stay W W') : W'.cell? p0 = some c0 ∧ W'.cell? p1 = some c1 ∧ W'.cell? p2 = some c2 := ⟨hs.cell h.1, hs.cell h.2.1, hs.cell h.2.2⟩
theorem keep16 {W W' : World} {p0 p1 p2 p3 p4 p5 p6 p7 p8 p9 p10 p11 p12 p13 p14 p15 : Addr} {c0 c1 c2 c3 c4 c5 c6 c7 c8 c9 c10 c11 c12 c13 c14 c15 : Value} (h : W.cell? p0 = some c0 ∧ W.cell? p1 = some c1 ∧ W.cell? p2 = some c2 ∧ W.cell? p3 = some c3 ∧ W.cell? p4 = some c4 ∧ W.cell? p5 = some c5 ∧ W.cell? p6 = some c6 ∧ W.cell? p7 = some c7 ∧ W.cell? p8 = some c8 ∧ W.cell? p9 = some c9 ∧ W.cell? p10 = some c10 ∧ W.cell? p11 = some c11 ∧ W.cell? p12 = some c12 ∧ W.cell? p13 = some c13 ∧ W.cell? p14 = some c14 ∧ W.cell? p15 = some c15) (hs : Stay W W') : W'.cell? p0 = some c0 ∧ W'.cell? p1 = some c1 ∧ W'.cell? p2 = some c2 ∧ W'.cell? p3 = some c3 ∧ W'.cell? p4 = some c4 ∧ W'.cell? p5 = some c5 ∧ W'.cell? p6 = some c6 ∧ W'.cell? p7 = some c7 ∧ W'.cell? p8 = some c8 ∧ W'.cell? p9 = some c9 ∧ W'.cell? p10 = some c10 ∧ W'.cell? p11 = some c11 ∧ W'.cell? p12 = some c12 ∧ W'.cell? p13 = some c13 ∧ W'.cell? p14 = some c14 ∧ W'.cell? p15 = some c15 :=
  ⟨hs.cell h.1, hs.cell h.2.1, hs.cell h.2.2.1, hs.cell h.2.2.2.1, hs.cell h.2.2.2.2.1, hs.cell h.2.2.2.2.2.1, hs.cell h.2.2.2.2.2.2.1, hs.cell h.2.2.2.2.2.2.2.1, hs.cell h.2.2.2.2.2.2.2.2.1, hs.cell h.2.2.2.2.2.2.2.2.2.1, hs.cell h.2.2.2.2.2.2.2.2.2.2.1, hs.cell h.2.2.2.2.2.2.2.2.2.2.2.1, hs.cell h.2.2.2.2.2.2.2.2.2.2.2.2.1, hs.cell h.2.2.2.2.2.2.2.2.2.2.2.2.2.1, hs.cell h.2.2.2.2.2.2.2.2.2.2.2.2.2.2.1, hs.cell h.2.2.2.2.2.2.2.2.2.2.2.2.2.2.2⟩
theorem fst_fault {F : List (Int × Int × ByteArray)} {l : List (Int × ByteArray)} (e : F = l.map (fun p => ((0 : Int), p))) (h : 0 < F.length) : F[0].2.2 = headN l := by
  subst e
  cases l with
  | nil => simp at h
  | cons p ps => rfl
/-- A program of one rule. -/
def onePr (x : Ru) (b : Nat) : Pr := ⟨none, 0, 0, 0, [], none, 0, 0, 0, [], some ⟨b, 0, none⟩, b, 0, 1, [x]⟩
theorem onePr_in {x : Ru} {V : World} (h : x.fit V) : LsR (V.alloc (.cells #[.string x.head.pred, .slice x.head.a x.head.ts.length x.head.cap, .slice x.a x.body.length x.cap] 27)) (some ⟨V.heap.size, 0, none⟩) V.heap.size 0 [x] := by
  refine ⟨?_, fun y hy => ?_⟩
  · have := recs_lit encRuOk V [x] 27
    rw [show cellsR encRu [x] = encRu x by simp [cellsR]] at this
    exact this
  · rw [List.mem_singleton] at hy
    subst hy
    exact Ru.stay h.ins (Stay.new _ _)

set_option maxRecDepth 100000 in
set_option maxHeartbeats 60000000 in
theorem safeRule_walk (x : Ru) (us : List ByteArray) (ua : Option Addr) (ub uo uc : Nat) (w : World) (hx : x.fit w) (hf : x.fair) (hk : kindsOk x.body) (hU : RecS 1 encSt w ua ub uo us) (hua : ua = none → uc = 0 ∧ us = []) (hun : us.length ≤ 1048576) (hus : ∀ s ∈ us, s.size ≤ 1048576)
    (hfl : (faultsF 0 [x]).length ≤ 4294967296) (hv : (onceN (placesR x)).length ≤ 4294967296) (hb : (onceN (bindP x.body)).length ≤ 4294967296) (hw : (wayL x.body).length ≤ 4294967296) :
    Calls Try.prog 3 #[x.v, .slice ua us.length uc] w fun e w' => e = .returned (.bool true) ∧ Stay w w' := by
  obtain ⟨w0, hw0⟩ : ∃ w0, w0 = w.alloc (.cells #[.string x.head.pred, x.head.sl, .slice x.a x.body.length x.cap] 27) := ⟨_, rfl⟩
  have s0 : Stay w w0 := by rw [hw0]; exact Stay.new _ _
  have hb0 : w0.heap[w.heap.size]? = some (.cells #[.string x.head.pred, x.head.sl, .slice x.a x.body.length x.cap] 27 (0, 0)) := by rw [hw0]; exact heap_new _ _
  have hcr := copyRule_any x w0 (Ru.stay hx.ins s0) hf
  obtain ⟨mk, hmk⟩ : ∃ mk : ByteArray, mk = ⟨#[109, 97, 114, 107]⟩ := ⟨_, rfl⟩
  have HN : Hid (∀ V, Stay w V → ∃ v1 A nb nc W2, (Builtin.append_ #[28, 28] 28 #[.slice none 0 0, .slice ua us.length uc]).run Try.prog V = .ok v1 A ∧
      (Builtin.append_ #[28, 28] 28 #[v1, .slice (some ⟨A.heap.size, 0, none⟩) 2 2]).run Try.prog (A.alloc (.cells #[.string ⟨#[109, 97, 114, 107]⟩, .string ⟨#[109, 97, 114, 107]⟩] 9)) = .ok (.slice (some ⟨nb, 0, none⟩) (us.length + 2) nc) W2 ∧
      RecS 1 encSt W2 (some ⟨nb, 0, none⟩) nb 0 (us ++ [mk, mk]) ∧ us.length + 2 ≤ nc ∧ nc ≤ maxLen ∧ Stay V W2 ∧ nb < W2.heap.size) := fun V hV => by
    rw [hmk]
    exact names_any V ua ub uo uc us (hU.stay hV) hua hun _
  obtain ⟨R, hR⟩ : ∃ R : Ending → World → Prop, R = fun e w' => e = .returned (.bool true) ∧ Stay w w' := ⟨_, rfl⟩
  rw [← hR]
  have HR : Hid (R = fun e w' => e = .returned (.bool true) ∧ Stay w w') := hR
  have HX : Hid (x.fit w0 ∧ Stay w w0 ∧ kindsOk x.body ∧ RecS 1 encSt w0 ua ub uo us ∧ x.fair ∧ (∀ s ∈ us, s.size ≤ 1048576) ∧ mk = ⟨#[109, 97, 114, 107]⟩) := ⟨hx.stay s0, s0, hk, hU.stay s0, hf, hus, hmk⟩
  clear hx hf hk hU hua hus hR s0 hmk
  obtain ⟨n, hn⟩ : ∃ n, n = us.length := ⟨_, rfl⟩
  have HNN : Hid (n = us.length) := hn
  rw [← hn] at hun HN
  rw [← hn]
  clear hn
  dsimp only [Ru.v, At.sl] at *
  have k0 : w0.cell? ⟨w.heap.size, 0, none⟩ = some (.string x.head.pred) ∧ w0.cell? ⟨w.heap.size, 1, none⟩ = some (.slice x.head.a x.head.ts.length x.head.cap) ∧ w0.cell? ⟨w.heap.size, 2, none⟩ = some (.slice x.a x.body.length x.cap) := by simp [World.cell?, hb0]
  obtain ⟨e0, e1, e2⟩ := k0
  have HK : Hid (w0.cell? ⟨w.heap.size, 0, none⟩ = some (.string x.head.pred) ∧ w0.cell? ⟨w.heap.size, 1, none⟩ = some (.slice x.head.a x.head.ts.length x.head.cap) ∧ w0.cell? ⟨w.heap.size, 2, none⟩ = some (.slice x.a x.body.length x.cap)) := ⟨e0, e1, e2⟩
  rw [hw0] at e0 e1 e2
  clear hb0
  go_enter Try.func3, Try.ntmps3
  go_wp2_with (first
    | (go_at_call 4; rw [← hw0]; refine hcr.mono ?_; rintro e W1 ⟨y, rfl, hlk, hky, s1⟩; obtain ⟨v1, A, nb, nc, w2, hr1, hr2, hN1, hN2, hN3, hN4, hN5⟩ := HN.out (W1.alloc (.cells #[.string y.head.pred, .slice y.head.a y.head.ts.length y.head.cap, .slice y.a y.body.length y.cap] 27)) ((HX.out.2.1.trans s1).alloc _); have HY : Hid (y.like x ∧ y.Kept W1 ∧ Stay w0 W1) := ⟨hlk, hky, s1⟩; have hnci : n ≤ nc := (by omega); clear hcr e0 e1 e2 hw0 hlk hky s1 HN)
    | (at_builtin; refine wpList_append_run rfl (.const (.slice none 0 0)) (.tmp 26) 28 28 rfl _ _ rfl rfl hr1 ?_; clear hr1)
    | (at_builtin; refine wpList_append_run rfl (.tmp 27) (.tmp 28) 28 28 rfl _ _ rfl rfl hr2 ?_; clear hr2))
  obtain ⟨V1, hV1⟩ : ∃ V1, V1 = W1.alloc (.cells #[.string y.head.pred, .slice y.head.a y.head.ts.length y.head.cap, .slice y.a y.body.length y.cap] 27) := ⟨_, rfl⟩
  have hbV : V1.heap[W1.heap.size]? = some (.cells #[.string y.head.pred, .slice y.head.a y.head.ts.length y.head.cap, .slice y.a y.body.length y.cap] 27 (0, 0)) := by rw [hV1]; exact heap_new _ _
  have sV1 : Stay W1 V1 := by rw [hV1]; exact Stay.new _ _
  rw [← hV1] at hN4
  have s02 : Stay w0 w2 := (HY.out.2.2.trans sV1).trans hN4
  have HC : Hid (∀ V, Stay w2 V → (V.cell? ⟨W1.heap.size, 0, none⟩ = some (.string y.head.pred) ∧ V.cell? ⟨W1.heap.size, 1, none⟩ = some (.slice y.head.a y.head.ts.length y.head.cap) ∧ V.cell? ⟨W1.heap.size, 2, none⟩ = some (.slice y.a y.body.length y.cap)) ∧ V.cell? ⟨w.heap.size, 0, none⟩ = some (.string x.head.pred) ∧ V.cell? ⟨w.heap.size, 1, none⟩ = some (.slice x.head.a x.head.ts.length x.head.cap) ∧ V.cell? ⟨w.heap.size, 2, none⟩ = some (.slice x.a x.body.length x.cap)) := fun V hV => by
    have h1 := ((hN4.trans hV).block W1.heap.size (Array.getElem?_eq_some_iff.1 hbV).1).trans hbV
    refine ⟨?_, keep3 HK.out (s02.trans hV)⟩
    simp [World.cell?, h1]
  have fx : x.fit w2 := HX.out.1.stay s02
  have fy : y.fit w2 := (fit_like HX.out.1 HY.out.1 HY.out.2.1).stay (sV1.trans hN4)
  have hlk := HY.out.1
  have HQ : Hid (Stay w w2 ∧ y.like x ∧ y.Kept w2 ∧ x.fit w2 ∧ y.fit w2 ∧ RecS 1 encSt w2 (some ⟨nb, 0, none⟩) nb 0 (us ++ [mk, mk]) ∧ RecS 1 encSt w2 ua ub uo us ∧ nb < w2.heap.size ∧ n + 2 ≤ nc ∧ nc ≤ maxLen) :=
    ⟨HX.out.2.1.trans s02, hlk, HY.out.2.1.stay (sV1.trans hN4), fx, fy, hN1, HX.out.2.2.2.1.stay s02, hN5, hN2, hN3⟩
  obtain ⟨vs, hvs⟩ : ∃ vs, vs = onceN (placesR x) := ⟨_, rfl⟩
  obtain ⟨bd, hbd⟩ : ∃ bd, bd = onceN (bindP x.body) := ⟨_, rfl⟩
  obtain ⟨way, hway⟩ : ∃ way, way = wayL x.body := ⟨_, rfl⟩
  obtain ⟨ok, hok⟩ : ∃ ok, ok = wayOk x.body := ⟨_, rfl⟩
  obtain ⟨nm, hnm⟩ : ∃ nm, nm = ruleN x := ⟨_, rfl⟩
  obtain ⟨rb, hrb⟩ : ∃ rb, rb = ruleB x := ⟨_, rfl⟩
  obtain ⟨F, hF⟩ : ∃ F, F = faultsF 0 [x] := ⟨_, rfl⟩
  obtain ⟨n1, hn1⟩ : ∃ n1, n1 = vs.length := ⟨_, rfl⟩
  obtain ⟨n2, hn2⟩ : ∃ n2, n2 = bd.length := ⟨_, rfl⟩
  obtain ⟨n3, hn3⟩ : ∃ n3, n3 = way.length := ⟨_, rfl⟩
  obtain ⟨nf, hnf⟩ : ∃ nf, nf = F.length := ⟨_, rfl⟩
  have hvy : ∀ V, Stay w2 V → Calls Try.prog 5 #[.agg #[.string y.head.pred, .slice y.head.a y.head.ts.length y.head.cap, .slice y.a y.body.length y.cap]] V fun e w' => ∃ a c, e = .returned (.slice a n1 c) ∧ OwnR 9 1 encSt V.heap.size w' (.slice a vs.length c) vs ∧ Stay V w' := fun V hV => by
    have := sVars_any y V (fy.stay hV)
    rw [placesR_like hlk, ← hvs] at this
    rw [hn1]
    exact this
  have hby : ∀ V, Stay w2 V → Calls Try.prog 6 #[.slice y.a y.body.length y.cap] V fun e w' => ∃ a c, e = .returned (.slice a n2 c) ∧ OwnR 9 1 encSt V.heap.size w' (.slice a bd.length c) bd ∧ Stay V w' := fun V hV => by
    have := sBound_any y V (fy.stay hV)
    rw [bindP_like hlk.2, ← hbd] at this
    rw [hn2]
    exact this
  have hwy : ∀ V, Stay w2 V → Calls Try.prog 7 #[.agg #[.string y.head.pred, .slice y.head.a y.head.ts.length y.head.cap, .slice y.a y.body.length y.cap]] V fun e w' => ∃ a c, e = .returned (.tuple #[.slice a n3 c, .bool ok]) ∧ OwnR 3 1 encI V.heap.size w' (.slice a way.length c) way ∧ Stay V w' := fun V hV => by
    have := way_any y V (fy.stay hV)
    unfold WayR at this
    rw [wayL_like hlk.2, wayOk_like hlk.2, ← hway, ← hok] at this
    rw [hn3]
    exact this
  have hry : ∀ V, Stay w2 V → Calls Try.prog 8 #[.agg #[.string y.head.pred, .slice y.head.a y.head.ts.length y.head.cap, .slice y.a y.body.length y.cap]] V fun e w' => e = .returned (.tuple #[.string nm, .bool rb]) ∧ Stay V w' := fun V hV => by
    have := rule_fit y V (fy.stay hV)
    rw [ruleN_like hlk, ruleB_like hlk, ← hnm, ← hrb] at this
    exact this
  have hwx : ∀ V, Stay w2 V → Calls Try.prog 9 #[.agg #[.string x.head.pred, .slice x.head.a x.head.ts.length x.head.cap, .slice x.a x.body.length x.cap]] V fun e w' => ∃ a c, e = .returned (.tuple #[.slice a n3 c, .bool ok]) ∧ OwnR 3 1 encI V.heap.size w' (.slice a way.length c) way ∧ Stay V w' := fun V hV => by
    have := yWay_any x V (fx.stay hV) HX.out.2.2.1
    unfold WayR at this
    rw [← hway, ← hok] at this
    rw [hn3]
    exact this
  have hfx : ∀ V, Stay w2 V → Calls Try.prog 10 #[.agg #[.slice none 0 0, .slice none 0 0, .slice (some ⟨V.heap.size, 0, none⟩) 1 1]] (V.alloc (.cells #[.string x.head.pred, .slice x.head.a x.head.ts.length x.head.cap, .slice x.a x.body.length x.cap] 27)) fun e w' => ∃ a c, e = .returned (.slice a nf c) ∧ OwnR 45 3 encLo (V.alloc (.cells #[.string x.head.pred, .slice x.head.a x.head.ts.length x.head.cap, .slice x.a x.body.length x.cap] 27)).heap.size w' (.slice a F.length c) F ∧ Stay (V.alloc (.cells #[.string x.head.pred, .slice x.head.a x.head.ts.length x.head.cap, .slice x.a x.body.length x.cap] 27)) w' := fun V hV => by
    have := yFaults_any (onePr x V.heap.size) (V.alloc (.cells #[.string x.head.pred, .slice x.head.a x.head.ts.length x.head.cap, .slice x.a x.body.length x.cap] 27)) (onePr_in (fx.stay hV)) (fun r hr => by
      have hr : r ∈ [x] := hr
      rw [List.mem_singleton] at hr
      subst hr
      exact ⟨(fx.stay hV).stay (Stay.new _ _), HX.out.2.2.1⟩) (by simp [onePr]) hfl
    dsimp only [onePr] at this
    unfold NewR at this
    rw [← hF] at this
    rw [hnf]
    exact this
  have hvx : ∀ V, Stay w2 V → Calls Try.prog 12 #[.agg #[.string x.head.pred, .slice x.head.a x.head.ts.length x.head.cap, .slice x.a x.body.length x.cap]] V fun e w' => ∃ a c, e = .returned (.slice a n1 c) ∧ OwnR 9 1 encSt V.heap.size w' (.slice a vs.length c) vs ∧ Stay V w' := fun V hV => by
    have := yVars_any x V (fx.stay hV).ins fx.small HX.out.2.2.1
    rw [← hvs] at this
    rw [hn1]
    exact this
  have hbx : ∀ V, Stay w2 V → Calls Try.prog 13 #[.slice x.a x.body.length x.cap] V fun e w' => ∃ a c, e = .returned (.slice a n2 c) ∧ OwnR 9 1 encSt V.heap.size w' (.slice a bd.length c) bd ∧ Stay V w' := fun V hV => by
    have := yBound_any x.body x.a x.b x.off x.cap V (fx.stay hV).ins.2 (bodySmall fx.small) HX.out.2.2.1
    rw [← hbd] at this
    rw [hn2]
    exact this
  have HF : Hid (F = (looseP x).map (fun p => ((0 : Int), p)) ∧ nm = headN (looseP x) ∧ rb = noneB (looseP x)) := ⟨by rw [hF]; exact faults_one x, hnm, hrb⟩
  rw [← hF, ← hnf] at hfl
  rw [← hvs, ← hn1] at hv
  rw [← hbd, ← hn2] at hb
  rw [← hway, ← hn3] at hw
  have HL : Hid (n1 = vs.length ∧ n2 = bd.length ∧ n3 = way.length ∧ nf = F.length) := ⟨hn1, hn2, hn3, hnf⟩
  clear hvs hbd hway hok hnm hrb hF hn1 hn2 hn3 hnf fx fy hlk hN1 hN2 hN3 hN4 hN5 s02 sV1 hbV hV1 HK HY
  have hS := (HC.out w2.drew (Stay.drew _)).1
  have en5 : ∀ args w, (callFunc 5 args).run Try.prog w = .ok (.enter 5 args) w := enters_of Try.func5 (by kernel_rfl) rfl
  have en6 : ∀ args w, (callFunc 6 args).run Try.prog w = .ok (.enter 6 args) w := enters_of Try.func6 (by kernel_rfl) rfl
  refine region_wpH (S := fun W => W.cell? ⟨W1.heap.size, 0, none⟩ = some (.string y.head.pred) ∧ W.cell? ⟨W1.heap.size, 1, none⟩ = some (.slice y.head.a y.head.ts.length y.head.cap) ∧ W.cell? ⟨W1.heap.size, 2, none⟩ = some (.slice y.a y.body.length y.cap)) (by kernel_rfl) ?_
  --@3@
  refine wpAnyH_take (i := 0) (v := .agg #[.string y.head.pred, .slice y.head.a y.head.ts.length y.head.cap, .slice y.a y.body.length y.cap]) rfl (by kernel_rfl) (by kernel_rfl) (by kernel_rfl) (fun _ _ _ h => h) (Or.inl ⟨by rfl, fun W hW => by obtain ⟨q0, q1, q2⟩ := hW; first | (go_simp; done) | (go_simp; with_reducible rfl)⟩) hS ?_
  refine wpAnyH_take (i := 2) (v := .pointer (some ⟨W1.heap.size, 2, none⟩)) rfl (by kernel_rfl) (by kernel_rfl) (by kernel_rfl) (fun _ _ _ h => h) (Or.inl ⟨by rfl, fun W _ => by first | (go_simp; done) | (go_simp; with_reducible rfl)⟩) hS ?_
  refine wpAnyH_take (i := 3) (v := .slice y.a y.body.length y.cap) rfl (by kernel_rfl) (by kernel_rfl) (by kernel_rfl) (fun _ _ _ h => h) (Or.inl ⟨by rfl, fun W hW => by obtain ⟨q0, q1, q2⟩ := hW; first | (go_simp; done) | (go_simp; with_reducible rfl)⟩) hS ?_
  refine wpAnyH_ready (rs := [1]) (by kernel_rfl) (by simp) (AllReadyH.cons (o := { dst := some 34, op := Op.call { callee := Callee.value (Operand.func 5), args := #[Operand.tmp 33], argTypes := #[27] }, type := 28, pos := "law.go:61", after := #[{ on := 0, ground := Ground.data }], guard := none }) rfl (fun K hK => ?_) AllReadyH.nil)
  refine step_goG (by rfl) 5 _ _ rfl (args := #[.agg #[.string y.head.pred, .slice y.head.a y.head.ts.length y.head.cap, .slice y.a y.body.length y.cap]]) (by first | rfl | (simp [Act.eval]; done) | simp [Act.eval, Act.put]) en5 ?_
  refine (hvy _ (Stay.drew _)).mono ?_
  rintro e W2 ⟨a6, c6, rfl, hO6, t2⟩
  have T2 : Hid (Stay w2 W2) := (Stay.drew w2).trans t2
  refine ⟨_, rfl, ?_⟩
  (try go_simp)
  refine hK.out _ _ (keep3 hS t2) (fun hS => ?_)
  clear hK K
  refine wpAnyH_ready (rs := [4]) (by kernel_rfl) (by simp) (AllReadyH.cons (o := { dst := some 37, op := Op.call { callee := Callee.value (Operand.func 6), args := #[Operand.tmp 36], argTypes := #[25] }, type := 28, pos := "law.go:61", after := #[{ on := 3, ground := Ground.data }, { on := 1, ground := Ground.chain }], guard := none }) rfl (fun K hK => ?_) AllReadyH.nil)
  refine step_goG (by rfl) 6 _ _ rfl (args := #[.slice y.a y.body.length y.cap]) (by first | rfl | (simp [Act.eval]; done) | simp [Act.eval, Act.put]) en6 ?_
  refine (hby _ T2.out).mono ?_
  rintro e W3 ⟨a7, c7, rfl, hO7, t3⟩
  refine ⟨_, rfl, ?_⟩
  (try go_simp)
  refine hK.out _ _ (keep3 hS t3) (fun hS => ?_)
  clear hK K
  refine wpAnyH_take (i := 5) (v := .slice a6 n1 c6) rfl (by kernel_rfl) (by kernel_rfl) (by kernel_rfl) (fun _ _ _ h => h) (Or.inl ⟨by rfl, fun W _ => by first | (go_simp; done) | (go_simp; with_reducible rfl)⟩) hS ?_
  refine wpAnyH_take (i := 6) (v := .slice a7 n2 c7) rfl (by kernel_rfl) (by kernel_rfl) (by kernel_rfl) (fun _ _ _ h => h) (Or.inl ⟨by rfl, fun W _ => by first | (go_simp; done) | (go_simp; with_reducible rfl)⟩) hS ?_
  refine wpAnyH_done (by kernel_rfl) ?_ _
  unfold normQ
  have H3 : Hid (Stay w2 W3 ∧ OwnR 9 1 encSt w2.heap.size W3 (.slice a6 vs.length c6) vs ∧ OwnR 9 1 encSt w2.heap.size W3 (.slice a7 bd.length c7) bd) := ⟨T2.out.trans t3, hO6.stay t3, hO7.base T2.out.size⟩
  clear hS T2 t2 t3 hO6 hO7 en5 en6
  --@3.@
  obtain ⟨b6, hR6, hp6, hh6⟩ := own_has encStOk H3.out.2.1
  obtain ⟨b7, hR7, hp7, hh7⟩ := own_has encStOk H3.out.2.2
  have HA3 : Hid (RecS 1 encSt W3 a6 b6 0 vs ∧ HasN 9 vs.length b6 W3 ∧ RecS 1 encSt W3 a7 b7 0 bd ∧ HasN 9 bd.length b7 W3) := ⟨hR6, hh6, hR7, hh7⟩
  have HP6 : Hid ((0 < vs.length → a6 = some ⟨b6, 0, none⟩ ∧ w2.heap.size ≤ b6 ∧ b6 < W3.heap.size) ∧ (0 < bd.length → a7 = some ⟨b7, 0, none⟩ ∧ w2.heap.size ≤ b7 ∧ b7 < W3.heap.size)) := ⟨hp6, hp7⟩
  have HT3 : Hid (Stay w2 W3) := H3.out.1
  clear hR6 hp6 hh6 hR7 hp7 hh7 H3
  obtain ⟨⟨r0, r1, r2⟩, y0, y1, y2⟩ := HC.out W3 HT3.out
  go_wp2_with fail
  refine (hwy W3 HT3.out).mono ?_
  rintro e W4 ⟨a8, c8, rfl, hO8, t4⟩
  clear r0 r1 r2 y0 y1 y2
  obtain ⟨b8, hR8, hp8, hh8⟩ := own_has encIOk hO8
  have HA4 : Hid (Stay W3 W4 ∧ Stay w2 W4 ∧ RecS 1 encI W4 a8 b8 0 way ∧ HasN 3 way.length b8 W4 ∧ (0 < way.length → a8 = some ⟨b8, 0, none⟩ ∧ w2.heap.size ≤ b8 ∧ b8 < W4.heap.size)) := ⟨t4, HT3.out.trans t4, hR8, hh8, fun h0 => ⟨(hp8 h0).1, Nat.le_trans HT3.out.size (hp8 h0).2.1, (hp8 h0).2.2⟩⟩
  clear hO8 t4 hR8 hp8 hh8
  obtain ⟨⟨r0, r1, r2⟩, y0, y1, y2⟩ := HC.out W4 HA4.out.2.1
  go_wp2_with fail
  refine (hry W4 HA4.out.2.1).mono ?_
  rintro e W5 ⟨rfl, t5⟩
  clear r0 r1 r2 y0 y1 y2 hry
  have HT5 : Hid (Stay w2 W5 ∧ Stay W4 W5) := ⟨HA4.out.2.1.trans t5, t5⟩
  clear t5
  obtain ⟨⟨r0, r1, r2⟩, y0, y1, y2⟩ := HC.out W5 HT5.out.1
  go_wp2_with fail
  refine (hwx W5 HT5.out.1).mono ?_
  rintro e W6 ⟨a9, c9, rfl, hO9, t6⟩
  clear r0 r1 r2 y0 y1 y2 hwx
  obtain ⟨b9, hR9, hp9, -⟩ := own_has encIOk hO9
  have HA6 : Hid (Stay W5 W6 ∧ Stay w2 W6 ∧ RecS 1 encI W6 a9 b9 0 way ∧ (0 < way.length → W5.heap.size ≤ b9 ∧ b9 < W6.heap.size)) := ⟨t6, HT5.out.1.trans t6, hR9, fun h0 => (hp9 h0).2⟩
  clear hO9 t6 hR9 hp9
  obtain ⟨⟨r0, r1, r2⟩, y0, y1, y2⟩ := HC.out W6 HA6.out.2.1
  go_wp2_with fail
  refine (hfx W6 HA6.out.2.1).mono ?_
  rintro e W7 ⟨a10, c10, rfl, hO10, t7⟩
  clear r0 r1 r2 y0 y1 y2 hfx
  obtain ⟨a10', b10, c10', hv10, hR10, -⟩ := hO10.form encLoOk
  simp only [Value.slice.injEq] at hv10
  obtain ⟨rfl, -, rfl⟩ := hv10
  have HA7 : Hid (Stay W6 W7 ∧ Stay w2 W7 ∧ RecS 3 encLo W7 a10 b10 0 F) := ⟨(Stay.new _ _).trans t7, HA6.out.2.1.trans ((Stay.new _ _).trans t7), hR10⟩
  clear hO10 t7 hR10
  go_upto_if 59 with fail
  go_cut [16] from 24 (fun v wx => v = .string nm ∧ wx = W7)
  case first =>
    by_cases h0 : 0 < nf
    · have hi : (0 : Int) < (nf : Int) := by omega
      have h0F : 0 < F.length := by have := HL.out; omega
      obtain rfl := HA7.out.2.2.1 h0F
      have d0 := HA7.out.2.2.2 0 h0F 2 _ rfl
      have hnm : F[0].2.2 = nm := by rw [HF.out.2.1]; exact fst_fault HF.out.1 h0F
      rw [hnm] at d0
      simp only [Nat.zero_mul, Nat.zero_add] at d0
      clear hnm h0F
      go_wp2_with fail
      go_meet
      case rel => exact ⟨rfl, rfl⟩
    · have hi : ¬ (0 : Int) < (nf : Int) := by omega
      have HE : Hid (nm = ⟨#[]⟩) := by
        obtain ⟨e1, e2, -⟩ := HF.out
        have h1 : F.length = 0 := by have := HL.out; omega
        rw [e1, List.length_map] at h1
        show _ = _
        rw [e2, List.eq_nil_of_length_eq_zero h1]
        rfl
      go_wp2_with fail
      go_meet
      case rel => exact ⟨by rw [HE.out], rfl⟩
  case rest =>
    obtain ⟨rfl, hwc⟩ := hcut
    subst hwc
    rename World => W7
    go_upto_region 11 with fail
    go_cut [99] from 24 (fun v wx => v = .bool false ∧ Stay W7 wx)
    case first =>
      obtain ⟨⟨r0, r1, r2⟩, y0, y1, y2⟩ := HC.out W7 HA7.out.2.1
      go_wp2_with fail
      refine (hvx W7 HA7.out.2.1).mono ?_
      rintro e W8 ⟨a11, c11, rfl, hO11, t8⟩
      clear r0 r1 r2 y0 y1 y2
      obtain ⟨b11, hR11, -, -⟩ := own_has encStOk hO11
      have HT8 : Hid (Stay W7 W8) := t8
      have t38 : Stay W3 W8 := ((HA4.out.1.trans HT5.out.2).trans (HA6.out.1.trans HA7.out.1)).trans t8
      have hst := sameTexts_yes W8 a6 a11 b6 b11 0 0 c6 c11 vs (HA3.out.1.stay t38) hR11 (by have := HL.out; omega)
      rw [← HL.out.1] at hst
      clear hO11 hR11 t38 t8
      go_wp2_with fail
      refine hst.mono ?_
      rintro e W9 ⟨rfl, t9⟩
      have HT9 : Hid (Stay W7 W9) := HT8.out.trans t9
      clear hst t9 HT8
      obtain ⟨⟨r0, r1, r2⟩, y0, y1, y2⟩ := HC.out W9 (HA7.out.2.1.trans HT9.out)
      go_wp2_with fail
      refine (hbx W9 (HA7.out.2.1.trans HT9.out)).mono ?_
      rintro e W10 ⟨a12, c12, rfl, hO12, t10⟩
      clear r0 r1 r2 y0 y1 y2
      obtain ⟨b12, hR12, -, -⟩ := own_has encStOk hO12
      have HT10 : Hid (Stay W7 W10) := HT9.out.trans t10
      have t310 : Stay W3 W10 := ((HA4.out.1.trans HT5.out.2).trans (HA6.out.1.trans HA7.out.1)).trans HT10.out
      have hst := sameTexts_yes W10 a7 a12 b7 b12 0 0 c7 c12 bd (HA3.out.2.2.1.stay t310) hR12 (by have := HL.out; omega)
      rw [← HL.out.2.1] at hst
      clear hO12 hR12 t10 t310 HT9
      go_wp2_with fail
      refine hst.mono ?_
      rintro e W11 ⟨rfl, t11⟩
      have HT11 : Hid (Stay W7 W11) := HT10.out.trans t11
      have hsi := sameInts_yes W11 a8 a9 b8 b9 0 0 c8 c9 way (HA4.out.2.2.1.stay ((HT5.out.2.trans (HA6.out.1.trans HA7.out.1)).trans HT11.out)) (HA6.out.2.2.1.stay (HA7.out.1.trans HT11.out)) (by have := HL.out; omega)
      rw [← HL.out.2.2.1] at hsi
      clear hst t11 HT10
      go_wp2_with fail
      refine hsi.mono ?_
      rintro e W12 ⟨rfl, t12⟩
      have HT12 : Hid (Stay W7 W12) := HT11.out.trans t12
      have hokk : (ok != ok) = false := by simp
      have hnmm : (nm.toList != nm.toList) = false := by simp
      have hrbb : (rb != rb) = false := by simp
      have hnf0 : ((nf : Int) == 0) = rb := by
        obtain ⟨e1, -, e3⟩ := HF.out
        have h1 : nf = (looseP x).length := by rw [HL.out.2.2.2, e1, List.length_map]
        rw [e3, h1]
        cases looseP x with
        | nil => rfl
        | cons p ps => simp [noneB]; omega
      clear hsi t12 HT11
      go_wp2_with fail
      go_meet
      case rel => exact ⟨by first | rfl | simp, HT12.out⟩
    case rest =>
      obtain ⟨rfl, hwc⟩ := hcut
      rename World => w8
      have HT8 : Hid (Stay W7 w8 ∧ Stay w2 w8) := ⟨hwc, HA7.out.2.1.trans hwc⟩
      clear hwc
      have hyl : y.body.length ≤ 1048576 := HQ.out.2.2.2.2.1.small.2.1
      have hc8 := (HC.out w8 HT8.out.2).1.2.2
      go_wp2_with fail
      clear hc8
      go_loopw [17] (fun u wr => ∃ j : Nat, j ≤ y.body.length ∧ u = .int .i64 (j : Int) ∧ Stay w8 wr) (fun u _ => y.body.length - (intOf u).toNat)
      case atStart => exact ⟨0, Nat.zero_le _, rfl, Stay.refl _⟩
      case round =>
        obtain ⟨j, hj, rfl, hst⟩ := hrel
        rename World => wa
        have HS : Hid (Stay w8 wa ∧ Stay w2 wa) := ⟨hst, HT8.out.2.trans hst⟩
        clear hst
        obtain ⟨⟨-, -, ya⟩, -, -, xa⟩ := HC.out wa HS.out.2
        by_cases hlt : j < y.body.length
        · have hki : (j : Int) < (y.body.length : Int) := by omega
          have hlt2 : j < x.body.length := by rw [← HQ.out.2.1.2.1]; exact hlt
          have hki2 : (j : Int) < (x.body.length : Int) := by omega
          have hyS := (HQ.out.2.2.2.2.1.stay HS.out.2).ins.2
          have hxS := (HQ.out.2.2.2.1.stay HS.out.2).ins.2
          have hya := hyS.1 (by omega)
          have hxa := hxS.1 (by omega)
          obtain ⟨g0, g1, g2, g3, g4, g5, g6, -⟩ := hyS.2 j hlt
          obtain ⟨m0, m1, m2, m3, m4, m5, m6, -⟩ := hxS.2 j hlt2
          have hr1 := fun V (hV : Stay wa V) => ready_any y.body[j] V (((HQ.out.2.2.2.2.1.stay HS.out.2).stay hV).lit (List.getElem_mem hlt)) (some ⟨nb, 0, none⟩) nb 0 nc us (((HQ.out.2.2.2.2.2.1.stay HS.out.2).stay hV).left) HX.out.2.2.2.2.2.1 (by have := HNN.out; omega)
          have hr2 := fun V (hV : Stay wa V) => yReady_any x.body[j] V (((HQ.out.2.2.2.1.stay HS.out.2).stay hV).lit (List.getElem_mem hlt2)) (HX.out.2.2.1 _ (List.getElem_mem hlt2)) ua ub uo uc us ((HQ.out.2.2.2.2.2.2.1.stay HS.out.2).stay hV) (by have := HNN.out; omega)
          have e12 : readyB y.body[j] us = readyB x.body[j] us := readyB_like (HQ.out.2.1.2.2 j hlt hlt2) us
          rw [e12] at hr1
          rw [← HNN.out] at hr1 hr2
          clear e12 hyS hxS
          generalize readyB x.body[j] us = rd at *
          generalize y.body[j] = p at *
          generalize x.body[j] = q at *
          obtain ⟨pk, ⟨pp, pa, pb, po, pc, pts⟩, ⟨plv, plt⟩, ⟨prv, prt⟩⟩ := p
          obtain ⟨qk, ⟨qp, qa, qb, qo, qc, qts⟩, ⟨qlv, qlt⟩, ⟨qrv, qrt⟩⟩ := q
          dsimp only [Li.v, At.sl] at *
          rw [hya] at ya
          rw [hxa] at xa
          have hrdd : (rd != rd) = false := by simp
          go_upto_region 16 with fail
          --@16@
          have en15 : ∀ args w, (callFunc 15 args).run Try.prog w = .ok (.enter 15 args) w := enters_of Try.func15 (by kernel_rfl) rfl
          have en16 : ∀ args w, (callFunc 16 args).run Try.prog w = .ok (.enter 16 args) w := enters_of Try.func16 (by kernel_rfl) rfl
          have hS : wa.drew.cell? ⟨W1.heap.size, 2, none⟩ = some (.slice (some ⟨y.b, y.off, none⟩) y.body.length y.cap) ∧ wa.drew.cell? ⟨w.heap.size, 2, none⟩ = some (.slice (some ⟨x.b, x.off, none⟩) x.body.length x.cap) ∧ wa.drew.cell? ⟨y.b, y.off + j * 7, none⟩ = some (.int .i64 pk) ∧ wa.drew.cell? ⟨y.b, y.off + j * 7 + 1, none⟩ = some (.string pp) ∧ wa.drew.cell? ⟨y.b, y.off + j * 7 + 2, none⟩ = some (.slice pa pts.length pc) ∧ wa.drew.cell? ⟨y.b, y.off + j * 7 + 3, none⟩ = some (.bool plv) ∧ wa.drew.cell? ⟨y.b, y.off + j * 7 + 4, none⟩ = some (.string plt) ∧ wa.drew.cell? ⟨y.b, y.off + j * 7 + 5, none⟩ = some (.bool prv) ∧ wa.drew.cell? ⟨y.b, y.off + j * 7 + 6, none⟩ = some (.string prt) ∧ wa.drew.cell? ⟨x.b, x.off + j * 7, none⟩ = some (.int .i64 qk) ∧ wa.drew.cell? ⟨x.b, x.off + j * 7 + 1, none⟩ = some (.string qp) ∧ wa.drew.cell? ⟨x.b, x.off + j * 7 + 2, none⟩ = some (.slice qa qts.length qc) ∧ wa.drew.cell? ⟨x.b, x.off + j * 7 + 3, none⟩ = some (.bool qlv) ∧ wa.drew.cell? ⟨x.b, x.off + j * 7 + 4, none⟩ = some (.string qlt) ∧ wa.drew.cell? ⟨x.b, x.off + j * 7 + 5, none⟩ = some (.bool qrv) ∧ wa.drew.cell? ⟨x.b, x.off + j * 7 + 6, none⟩ = some (.string qrt) := ⟨ya, xa, g0, g1, g2, g3, g4, g5, g6, m0, m1, m2, m3, m4, m5, m6⟩
          clear ya xa g0 g1 g2 g3 g4 g5 g6 m0 m1 m2 m3 m4 m5 m6 hya hxa
          refine region_wpH (S := fun W => W.cell? ⟨W1.heap.size, 2, none⟩ = some (.slice (some ⟨y.b, y.off, none⟩) y.body.length y.cap) ∧ W.cell? ⟨w.heap.size, 2, none⟩ = some (.slice (some ⟨x.b, x.off, none⟩) x.body.length x.cap) ∧ W.cell? ⟨y.b, y.off + j * 7, none⟩ = some (.int .i64 pk) ∧ W.cell? ⟨y.b, y.off + j * 7 + 1, none⟩ = some (.string pp) ∧ W.cell? ⟨y.b, y.off + j * 7 + 2, none⟩ = some (.slice pa pts.length pc) ∧ W.cell? ⟨y.b, y.off + j * 7 + 3, none⟩ = some (.bool plv) ∧ W.cell? ⟨y.b, y.off + j * 7 + 4, none⟩ = some (.string plt) ∧ W.cell? ⟨y.b, y.off + j * 7 + 5, none⟩ = some (.bool prv) ∧ W.cell? ⟨y.b, y.off + j * 7 + 6, none⟩ = some (.string prt) ∧ W.cell? ⟨x.b, x.off + j * 7, none⟩ = some (.int .i64 qk) ∧ W.cell? ⟨x.b, x.off + j * 7 + 1, none⟩ = some (.string qp) ∧ W.cell? ⟨x.b, x.off + j * 7 + 2, none⟩ = some (.slice qa qts.length qc) ∧ W.cell? ⟨x.b, x.off + j * 7 + 3, none⟩ = some (.bool qlv) ∧ W.cell? ⟨x.b, x.off + j * 7 + 4, none⟩ = some (.string qlt) ∧ W.cell? ⟨x.b, x.off + j * 7 + 5, none⟩ = some (.bool qrv) ∧ W.cell? ⟨x.b, x.off + j * 7 + 6, none⟩ = some (.string qrt)) (by kernel_rfl) ?_
          refine wpAnyH_take (i := 0) (v := .pointer (some ⟨W1.heap.size, 2, none⟩)) rfl (by kernel_rfl) (by kernel_rfl) (by kernel_rfl) (fun _ _ _ h => h) (Or.inl ⟨by rfl, fun W _ => by first | (go_simp; done) | (go_simp; with_reducible rfl)⟩) hS ?_
          refine wpAnyH_take (i := 1) (v := .slice (some ⟨y.b, y.off, none⟩) y.body.length y.cap) rfl (by kernel_rfl) (by kernel_rfl) (by kernel_rfl) (fun _ _ _ h => h) (Or.inl ⟨by rfl, fun W hW => by obtain ⟨q0, q1, q2, q3, q4, q5, q6, q7, q8, q9, q10, q11, q12, q13, q14, q15⟩ := hW; first | (go_simp; done) | (go_simp; with_reducible rfl)⟩) hS ?_
          refine wpAnyH_take (i := 2) (v := .int .i64 (j : Int)) rfl (by kernel_rfl) (by kernel_rfl) (by kernel_rfl) (fun _ _ _ h => h) (Or.inl ⟨by rfl, fun W _ => by first | (go_simp; done) | (go_simp; with_reducible rfl)⟩) hS ?_
          refine wpAnyH_take (i := 3) (v := .pointer (some ⟨y.b, y.off + j * 7, none⟩)) rfl (by kernel_rfl) (by kernel_rfl) (by kernel_rfl) (fun _ _ _ h => h) (Or.inl ⟨by rfl, fun W _ => by first | (go_simp; done) | (go_simp; with_reducible rfl)⟩) hS ?_
          refine wpAnyH_take (i := 4) (v := .agg #[.int .i64 pk, .string pp, .slice pa pts.length pc, .bool plv, .string plt, .bool prv, .string prt]) rfl (by kernel_rfl) (by kernel_rfl) (by kernel_rfl) (fun _ _ _ h => h) (Or.inl ⟨by rfl, fun W hW => by obtain ⟨q0, q1, q2, q3, q4, q5, q6, q7, q8, q9, q10, q11, q12, q13, q14, q15⟩ := hW; first | (go_simp; done) | (go_simp; with_reducible rfl)⟩) hS ?_
          refine wpAnyH_take (i := 5) (v := .slice (some ⟨nb, 0, none⟩) n nc) rfl (by kernel_rfl) (by kernel_rfl) (by kernel_rfl) (fun _ _ _ h => h) (Or.inl ⟨by rfl, fun W _ => by first | (go_simp; done) | (go_simp; with_reducible rfl)⟩) hS ?_
          refine wpAnyH_take (i := 7) (v := .pointer (some ⟨w.heap.size, 2, none⟩)) rfl (by kernel_rfl) (by kernel_rfl) (by kernel_rfl) (fun _ _ _ h => h) (Or.inl ⟨by rfl, fun W _ => by first | (go_simp; done) | (go_simp; with_reducible rfl)⟩) hS ?_
          refine wpAnyH_take (i := 8) (v := .slice (some ⟨x.b, x.off, none⟩) x.body.length x.cap) rfl (by kernel_rfl) (by kernel_rfl) (by kernel_rfl) (fun _ _ _ h => h) (Or.inl ⟨by rfl, fun W hW => by obtain ⟨q0, q1, q2, q3, q4, q5, q6, q7, q8, q9, q10, q11, q12, q13, q14, q15⟩ := hW; first | (go_simp; done) | (go_simp; with_reducible rfl)⟩) hS ?_
          refine wpAnyH_take (i := 9) (v := .int .i64 (j : Int)) rfl (by kernel_rfl) (by kernel_rfl) (by kernel_rfl) (fun _ _ _ h => h) (Or.inl ⟨by rfl, fun W _ => by first | (go_simp; done) | (go_simp; with_reducible rfl)⟩) hS ?_
          refine wpAnyH_take (i := 10) (v := .pointer (some ⟨x.b, x.off + j * 7, none⟩)) rfl (by kernel_rfl) (by kernel_rfl) (by kernel_rfl) (fun _ _ _ h => h) (Or.inl ⟨by rfl, fun W _ => by first | (go_simp; done) | (go_simp; with_reducible rfl)⟩) hS ?_
          refine wpAnyH_take (i := 11) (v := .agg #[.int .i64 qk, .string qp, .slice qa qts.length qc, .bool qlv, .string qlt, .bool qrv, .string qrt]) rfl (by kernel_rfl) (by kernel_rfl) (by kernel_rfl) (fun _ _ _ h => h) (Or.inl ⟨by rfl, fun W hW => by obtain ⟨q0, q1, q2, q3, q4, q5, q6, q7, q8, q9, q10, q11, q12, q13, q14, q15⟩ := hW; first | (go_simp; done) | (go_simp; with_reducible rfl)⟩) hS ?_
          refine wpAnyH_take (i := 12) (v := .slice ua n uc) rfl (by kernel_rfl) (by kernel_rfl) (by kernel_rfl) (fun _ _ _ h => h) (Or.inl ⟨by rfl, fun W _ => by first | (go_simp; done) | (go_simp; with_reducible rfl)⟩) hS ?_
          refine wpAnyH_ready (rs := [6]) (by kernel_rfl) (by simp) (AllReadyH.cons (o := { dst := some 113, op := Op.call { callee := Callee.value (Operand.func 15), args := #[Operand.tmp 111, Operand.tmp 112], argTypes := #[53, 28] }, type := 4, pos := "law.go:74", after := #[{ on := 4, ground := Ground.data }, { on := 5, ground := Ground.data }], guard := none }) rfl (fun K hK => ?_) AllReadyH.nil)
          refine step_goG (by rfl) 15 _ _ rfl (args := #[.agg #[.int .i64 pk, .string pp, .slice pa pts.length pc, .bool plv, .string plt, .bool prv, .string prt], .slice (some ⟨nb, 0, none⟩) n nc]) (by first | rfl | (simp [Act.eval]; done) | simp [Act.eval, Act.put]) en15 ?_
          refine (hr1 _ (Stay.drew _)).mono ?_
          rintro e U1 ⟨rfl, u1⟩
          have T1 : Hid (Stay wa U1) := (Stay.drew wa).trans u1
          refine ⟨_, rfl, ?_⟩
          (try go_simp)
          refine hK.out _ _ (keep16 hS u1) (fun hS => ?_)
          clear hK K
          refine wpAnyH_ready (rs := [13]) (by kernel_rfl) (by simp) (AllReadyH.cons (o := { dst := some 120, op := Op.call { callee := Callee.value (Operand.func 16), args := #[Operand.tmp 118, Operand.tmp 119], argTypes := #[53, 28] }, type := 4, pos := "law.go:74", after := #[{ on := 11, ground := Ground.data }, { on := 12, ground := Ground.data }, { on := 6, ground := Ground.chain }], guard := none }) rfl (fun K hK => ?_) AllReadyH.nil)
          refine step_goG (by rfl) 16 _ _ rfl (args := #[.agg #[.int .i64 qk, .string qp, .slice qa qts.length qc, .bool qlv, .string qlt, .bool qrv, .string qrt], .slice ua n uc]) (by first | rfl | (simp [Act.eval]; done) | simp [Act.eval, Act.put]) en16 ?_
          refine (hr2 _ T1.out).mono ?_
          rintro e U2 ⟨rfl, u2⟩
          refine ⟨_, rfl, ?_⟩
          (try go_simp)
          refine hK.out _ _ (keep16 hS u2) (fun hS => ?_)
          clear hK K
          refine wpAnyH_take (i := 14) (v := .bool false) rfl (by kernel_rfl) (by kernel_rfl) (by kernel_rfl) (fun _ _ _ h => h) (Or.inl ⟨by rfl, fun W _ => by first | (go_simp; done) | (go_simp; with_reducible rfl)⟩) hS ?_
          refine wpAnyH_done (by kernel_rfl) ?_ _
          unfold normQ
          have HS9 : Hid (Stay w8 U2) := HS.out.1.trans (T1.out.trans u2)
          clear hS hr1 hr2 u1 u2 T1 en15 en16
          go_wp2_with fail
          go_roundw
          case rel => exact ⟨j + 1, by omega, by simp, HS9.out⟩
          case measure => simp [intOf]; omega
          --@16.@
        · obtain rfl : j = y.body.length := by omega
          have HT9 : Hid (Stay W7 wa ∧ Stay w2 wa) := ⟨HT8.out.1.trans HS.out.1, HS.out.2⟩
          clear HS xa
          go_wp2_with fail
          clear ya
          have HW0 : Hid (HasN 9 n1 b6 wa ∧ HasN 9 n2 b7 wa ∧ HasN 3 n3 b8 wa) := by
            have t3 : Stay W3 wa := ((HA4.out.1.trans HT5.out.2).trans (HA6.out.1.trans HA7.out.1)).trans HT9.out.1
            have t4 : Stay W4 wa := (HT5.out.2.trans (HA6.out.1.trans HA7.out.1)).trans HT9.out.1
            obtain ⟨l1, l2, l3, -⟩ := HL.out
            rw [l1, l2, l3]
            exact ⟨HA3.out.2.1.stay t3, HA3.out.2.2.2.stay t3, HA4.out.2.2.2.1.stay t4⟩
          have HKB : Hid ((0 < n1 → a6 = some ⟨b6, 0, none⟩ ∧ w2.heap.size ≤ b6 ∧ b6 < W5.heap.size) ∧ (0 < n2 → a7 = some ⟨b7, 0, none⟩ ∧ w2.heap.size ≤ b7 ∧ b7 < W5.heap.size) ∧ (0 < n3 → a8 = some ⟨b8, 0, none⟩ ∧ w2.heap.size ≤ b8 ∧ b8 < W5.heap.size)) := by
            obtain ⟨l1, l2, l3, -⟩ := HL.out
            rw [l1, l2, l3]
            have z1 := HA4.out.1.size
            have z2 := HT5.out.2.size
            refine ⟨fun h => ?_, fun h => ?_, fun h => ?_⟩
            · have := HP6.out.1 h; exact ⟨this.1, this.2.1, by omega⟩
            · have := HP6.out.2 h; exact ⟨this.1, this.2.1, by omega⟩
            · have := HA4.out.2.2.2.2 h; exact ⟨this.1, this.2.1, by omega⟩
          go_loopw [18] (fun u wr => ∃ k : Nat, k ≤ n1 ∧ u = .int .i64 (k : Int) ∧ Off w2.heap.size W5.heap.size wa wr ∧ HasN 9 n1 b6 wr ∧ HasN 9 n2 b7 wr ∧ HasN 3 n3 b8 wr) (fun u _ => n1 - (intOf u).toNat)
          case atStart => exact ⟨0, Nat.zero_le _, rfl, Off.refl, HW0.out⟩
          case round =>
            obtain ⟨k, hk, rfl, ho, q1, q2, q3⟩ := hrel
            rename World => wb
            by_cases hlt : k < n1
            · have hki : (k : Int) < (n1 : Int) := by omega
              obtain ⟨rfl, hb1, hb2⟩ := HKB.out.1 (by omega)
              obtain ⟨⟨vv, hc⟩, hfz⟩ := q1.at hlt
              have HN : Hid (Off w2.heap.size W5.heap.size wa (wb.setCell ⟨b6, k, none⟩ (.string ⟨#[103, 111, 110, 101]⟩)) ∧ HasN 9 n1 b6 (wb.setCell ⟨b6, k, none⟩ (.string ⟨#[103, 111, 110, 101]⟩)) ∧ HasN 9 n2 b7 (wb.setCell ⟨b6, k, none⟩ (.string ⟨#[103, 111, 110, 101]⟩)) ∧ HasN 3 n3 b8 (wb.setCell ⟨b6, k, none⟩ (.string ⟨#[103, 111, 110, 101]⟩))) := ⟨ho.set hb1 hb2 _, q1.set _, q2.set _, q3.set _⟩
              clear ho q1 q2 q3 hb1 hb2
              go_wp2_with fail
              go_roundw
              case rel => exact ⟨k + 1, by omega, by simp, HN.out⟩
              case measure => simp [intOf]; omega
            · obtain rfl : n1 = k := by omega
              have HO1 : Hid (Off w2.heap.size W5.heap.size wa wb ∧ HasN 9 n2 b7 wb ∧ HasN 3 n3 b8 wb) := ⟨ho, q2, q3⟩
              clear ho q1 q2 q3
              go_wp2_with fail
              go_loopw [19] (fun u wr => ∃ k : Nat, k ≤ n2 ∧ u = .int .i64 (k : Int) ∧ Off w2.heap.size W5.heap.size wa wr ∧ HasN 9 n2 b7 wr ∧ HasN 3 n3 b8 wr) (fun u _ => n2 - (intOf u).toNat)
              case atStart => exact ⟨0, Nat.zero_le _, rfl, HO1.out⟩
              case round =>
                obtain ⟨i, hi, rfl, ho, q2, q3⟩ := hrel
                rename World => wc
                by_cases hlt2 : i < n2
                · have hki : (i : Int) < (n2 : Int) := by omega
                  obtain ⟨rfl, hb1, hb2⟩ := HKB.out.2.1 (by omega)
                  obtain ⟨⟨vv, hc⟩, hfz⟩ := q2.at hlt2
                  have HN : Hid (Off w2.heap.size W5.heap.size wa (wc.setCell ⟨b7, i, none⟩ (.string ⟨#[103, 111, 110, 101]⟩)) ∧ HasN 9 n2 b7 (wc.setCell ⟨b7, i, none⟩ (.string ⟨#[103, 111, 110, 101]⟩)) ∧ HasN 3 n3 b8 (wc.setCell ⟨b7, i, none⟩ (.string ⟨#[103, 111, 110, 101]⟩))) := ⟨ho.set hb1 hb2 _, q2.set _, q3.set _⟩
                  clear ho q2 q3 hb1 hb2
                  go_wp2_with fail
                  go_roundw
                  case rel => exact ⟨i + 1, by omega, by simp, HN.out⟩
                  case measure => simp [intOf]; omega
                · obtain rfl : n2 = i := by omega
                  have HO2 : Hid (Off w2.heap.size W5.heap.size wa wc ∧ HasN 3 n3 b8 wc) := ⟨ho, q3⟩
                  clear ho q2 q3
                  go_wp2_with fail
                  go_loopw [20] (fun u wr => ∃ k : Nat, k ≤ n3 ∧ u = .int .i64 (k : Int) ∧ Off w2.heap.size W5.heap.size wa wr ∧ HasN 3 n3 b8 wr) (fun u _ => n3 - (intOf u).toNat)
                  case atStart => exact ⟨0, Nat.zero_le _, rfl, HO2.out⟩
                  case round =>
                    obtain ⟨l, hl, rfl, ho, q3⟩ := hrel
                    rename World => wd
                    by_cases hlt3 : l < n3
                    · have hki : (l : Int) < (n3 : Int) := by omega
                      obtain ⟨rfl, hb1, hb2⟩ := HKB.out.2.2 (by omega)
                      obtain ⟨⟨vv, hc⟩, hfz⟩ := q3.at hlt3
                      have HN : Hid (Off w2.heap.size W5.heap.size wa (wd.setCell ⟨b8, l, none⟩ (.int .i64 (-7))) ∧ HasN 3 n3 b8 (wd.setCell ⟨b8, l, none⟩ (.int .i64 (-7)))) := ⟨ho.set hb1 hb2 _, q3.set _⟩
                      clear ho q3 hb1 hb2
                      go_wp2_with fail
                      go_roundw
                      case rel => exact ⟨l + 1, by omega, by simp, HN.out⟩
                      case measure => simp [intOf]; omega
                    · obtain rfl : n3 = l := by omega
                      have tz : Stay w2 wd := ho.stay HT9.out.2 (Nat.le_refl _)
                      have hRw : RecS 1 encI wd a9 b9 0 way := ho.recs (HA6.out.2.2.1.stay (HA7.out.1.trans HT9.out.1)) fun h0 => ⟨(HA6.out.2.2.2 h0).1, Nat.lt_of_lt_of_le (HA6.out.2.2.2 h0).2 (HA7.out.1.trans HT9.out.1).size⟩
                      have HZ : Hid (Stay w2 wd ∧ RecS 1 encI wd a9 b9 0 way) := ⟨tz, hRw⟩
                      clear ho q3 tz hRw HO1 HO2 HKB HW0 HA3 HA4 HT3 HP6 HT5 HA6 HA7 HT8 HT9
                      obtain ⟨⟨r0, r1, r2⟩, -⟩ := HC.out wd HZ.out.1
                      have hnc2 : (n : Int) + 2 ≤ (nc : Int) := by have := HQ.out.2.2.2.2.2.2.2.2.1; omega
                      go_wp2_with fail
                      refine (hwy wd HZ.out.1).mono ?_
                      rintro e W13 ⟨a13, c13, rfl, hO13, t13⟩
                      clear r0 r1 r2 hwy
                      obtain ⟨b13, hR13, -, -⟩ := own_has encIOk hO13
                      have HZ3 : Hid (Stay w2 W13 ∧ RecS 1 encI W13 a9 b9 0 way ∧ RecS 1 encI W13 a13 b13 0 way) := ⟨HZ.out.1.trans t13, HZ.out.2.stay t13, hR13⟩
                      clear hO13 t13 hR13 HZ
                      go_upto_region 32 with fail
                      --@32@
                      have hmark : ∀ V, Stay w2 V → V.cell? ⟨nb, n, none⟩ = some (.string ⟨#[109, 97, 114, 107]⟩) := fun V hV => by
                        have h := (HQ.out.2.2.2.2.2.1.stay hV).2 n (by rw [List.length_append, HNN.out]; simp) 0 (.string mk) (by simp [HNN.out, encSt])
                        rw [HX.out.2.2.2.2.2.2, Nat.zero_add, Nat.mul_one, Nat.add_zero] at h
                        exact h
                      obtain ⟨⟨c0, c1, c2⟩, d0, d1, d2⟩ := HC.out W13.drew (HZ3.out.1.trans (Stay.drew _))
                      refine safeRule_last W13 x y w.heap.size W1.heap.size nb n nc n1 n2 n3 uc c9 c13 ua a9 a13 vs bd ⟨c0, c1, c2, d0, d1, d2, hmark _ (HZ3.out.1.trans (Stay.drew _))⟩
                        (fun V hV => (hvy V (HZ3.out.1.trans hV)).mono fun e w9 ⟨a, c, he, hO, hs⟩ => by obtain ⟨b, hb, -, -⟩ := own_has encStOk hO; exact ⟨a, b, c, he, hb, hs⟩)
                        (fun V hV => (hvx V (HZ3.out.1.trans hV)).mono fun e w9 ⟨a, c, he, hO, hs⟩ => by obtain ⟨b, hb, -, -⟩ := own_has encStOk hO; exact ⟨a, b, c, he, hb, hs⟩)
                        (fun V a b c a' b' c' h1 h2 => by have h := sameTexts_yes V a a' b b' 0 0 c c' vs h1 h2 (by have := HL.out; omega); rw [← HL.out.1] at h; exact h)
                        (fun V hV => (hby V (HZ3.out.1.trans hV)).mono fun e w9 ⟨a, c, he, hO, hs⟩ => by obtain ⟨b, hb, -, -⟩ := own_has encStOk hO; exact ⟨a, b, c, he, hb, hs⟩)
                        (fun V hV => (hbx V (HZ3.out.1.trans hV)).mono fun e w9 ⟨a, c, he, hO, hs⟩ => by obtain ⟨b, hb, -, -⟩ := own_has encStOk hO; exact ⟨a, b, c, he, hb, hs⟩)
                        (fun V a b c a' b' c' h1 h2 => by have h := sameTexts_yes V a a' b b' 0 0 c c' bd h1 h2 (by have := HL.out; omega); rw [← HL.out.2.1] at h; exact h)
                        (fun V hV => by have h := sameInts_yes V a13 a9 b13 b9 0 0 c13 c9 way (HZ3.out.2.2.stay hV) (HZ3.out.2.1.stay hV) (by have := HL.out; omega); rw [← HL.out.2.2.1] at h; exact h)
                        (fun V hV => keptRule_yes V y x HQ.out.2.1 (HQ.out.2.2.1.stay (HZ3.out.1.trans hV)) (HQ.out.2.2.2.1.stay (HZ3.out.1.trans hV)).ins HX.out.2.2.2.2.1)
                        (fun V hV => by have h := sameTexts_yes V (some ⟨nb, 0, none⟩) ua nb ub 0 uo nc uc us ((HQ.out.2.2.2.2.2.1.stay (HZ3.out.1.trans hV)).left) (HQ.out.2.2.2.2.2.2.1.stay (HZ3.out.1.trans hV)) (by have := HNN.out; omega); rw [← HNN.out] at h; exact h)
                        (fun V _ => known_any V)
                        _ _ _ _ _ _ _ _ _ _ _ _ _ _ _ _ _ _ _ _ _ _ _ _ _ _ _ _ _ _ _ _ _ _ _ _ _ _ _ _ _ _ _ _ _ _ _ _ _ _ _ _ _ _ _ _ _ _ _ _ _ _ _ _ _ _ _ _ _ _ _ _ _ _ _ _ _ _ _ _ _ _ _ _ _ _ _ _ _ _ _ _ _ _ _ _ _ _ _ _ _ _ _ _ _ _ _ _ _ _ _ _ _ _ _ _ _ _ _ _ _ _ _ _ _ _ _ _ _ _ _ _ _ _ _ _ _ _ _ _ _ _ _ _ _ _ _ _ _ _ _ _ _ _ _ _ _ _ _ _ _ _ _ _ _ _ _ _ _ _ _ _ _ _ _ _ _ _ _ _ _ _ _ _ _ _ _ _ _ _ _ _ _ _ ?_
                      intro z159 z160 z161 z162 z163 z164 z165 z166 z167 z168 z169 z170 z171 z172 z173 z174 z175 z176 z177 z178 z179 z180 z181 z182 z183 z184 z185 z186 z187 z188 z189 z190 z191 z192 z193 z194 z195 z196 z197 z198 U hU
                      have HE : Hid (Stay w U) := HQ.out.1.trans (HZ3.out.1.trans hU)
                      clear c0 c1 c2 d0 d1 d2 hmark hU
                      go_wp2_with fail
                      show R _ _
                      rw [HR.out]
                      exact ⟨rfl, HE.out⟩
                      --@32.@
end Go.Proofs.Ytpnjmldbohecdaa
