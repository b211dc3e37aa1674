/- A program copied: CopyProgram. -/
import Derived.Test.YtcincbckpnmkiaaCE
import Derived.Test.YtcincbckpnmkiaaBB
namespace Go.Proofs.Ytcincbckpnmkiaa
open Go.RowKit Go.Maps

theorem infoInp : (Try.prog.info? 100).map (fun i => (i.zero, i.size, i.bytes)) = some (some (.agg #[.string ⟨#[]⟩, .int .i64 0, .string ⟨#[]⟩]), 3, 40) := by kernel_rfl
theorem infoOup : (Try.prog.info? 102).map (fun i => (i.zero, i.size, i.bytes)) = some (some (.agg #[.string ⟨#[]⟩, .int .i64 0]), 2, 24) := by kernel_rfl
theorem infoRu : (Try.prog.info? 27).map (fun i => (i.zero, i.size, i.bytes)) = some (some (.agg #[.string ⟨#[]⟩, .slice none 0 0, .slice none 0 0]), 3, 64) := by kernel_rfl
def markI : Inp := ⟨⟨#[109, 97, 114, 107]⟩, 0, ⟨#[]⟩⟩
def markO : Oup := ⟨⟨#[109, 97, 114, 107]⟩, 0⟩
def markR : Ru := ⟨⟨⟨#[109, 97, 114, 107]⟩, none, 0, 0, 0, []⟩, none, 0, 0, 0, []⟩
/-- One list of rules is the other's copy, one by one. -/
def likesR (cs ls : List Ru) : Prop := cs.length = ls.length ∧ ∀ j (h1 : j < cs.length) (h2 : j < ls.length), cs[j].like ls[j]
theorem likesR_nil : likesR [] [] := ⟨rfl, fun _ h => absurd h (Nat.not_lt_zero _)⟩
theorem likesR_snoc {cs ls : List Ru} {y x : Ru} (h : likesR cs ls) (hy : y.like x) : likesR (cs ++ [y]) (ls ++ [x]) := by
  refine ⟨by simp [h.1], fun j h1 h2 => ?_⟩
  by_cases hj : j < cs.length
  · rw [List.getElem_append_left hj, List.getElem_append_left (by rw [← h.1]; exact hj)]
    exact h.2 j hj _
  · have e1 : j = cs.length := by simp at h1; omega
    have e2 : j = ls.length := by rw [← h.1]; exact e1
    rw [List.getElem_append_right (by omega), List.getElem_append_right (by omega)]
    simpa using hy
/-- No list of the rule lies in the block. -/
def Ru.apart (y : Ru) (ob : Option Nat) : Prop := ob ≠ some y.head.b ∧ ob ≠ some y.b ∧ ∀ z ∈ y.body, ob ≠ some z.atom.b
theorem Ru.Kept.grown {y : Ru} {w w' : World} {ob : Option Nat} (h : y.Kept w) (hg : w.grownBy w' ob) (ha : y.apart ob) : y.Kept w' :=
  ⟨h.1.grown hg ha.1, h.2.1, h.2.2.1, h.2.2.2.1, h.2.2.2.2.1.grown hg ha.2.1, fun z hz => (h.2.2.2.2.2 z hz).grown hg (ha.2.2 z hz)⟩
theorem Ru.Kept.lt {y : Ru} {w : World} (h : y.Kept w) : y.head.b < w.heap.size ∧ y.b < w.heap.size ∧ ∀ z ∈ y.body, z.atom.b < w.heap.size := by
  refine ⟨h.1.lt, ?_, fun z hz => (h.2.2.2.2.2 z hz).lt⟩
  have h1 := h.2.2.2.2.1.2 (y.body.length) (by simp) 0 (.int .i64 77) (by simp [encLi, markL])
  exact World.block_lt_of_cell? w _ h1
theorem Ru.Kept.set {y : Ru} {w : World} (h : y.Kept w) {p : Addr} (v : Value) (ha : y.apart (some p.block)) : y.Kept (w.setCell p v) :=
  ⟨h.1.set v (fun e => ha.1 (by rw [e])), h.2.1, h.2.2.1, h.2.2.2.1, h.2.2.2.2.1.set v (fun e => ha.2.1 (by rw [e])), fun z hz => (h.2.2.2.2.2 z hz).set v (fun e => ha.2.2 z hz (by rw [e]))⟩

/-- A program in memory of its own, with marks behind each list. -/
def Pr.Kept (y : Pr) (w : World) : Prop :=
  (y.ia = some ⟨y.ib, y.io, none⟩ ∧ y.ins.length + 2 ≤ y.ic ∧ y.ic ≤ maxLen ∧ RecS 3 encInp w y.ia y.ib y.io (y.ins ++ [markI, markI])) ∧
  (y.oa = some ⟨y.ob, y.oo, none⟩ ∧ y.outs.length + 2 ≤ y.oc ∧ y.oc ≤ maxLen ∧ RecS 2 encOup w y.oa y.ob y.oo (y.outs ++ [markO, markO])) ∧
  (y.ra = some ⟨y.rb, y.ro, none⟩ ∧ y.rules.length + 2 ≤ y.rc ∧ y.rc ≤ maxLen ∧ RecS 3 encRu w y.ra y.rb y.ro (y.rules ++ [markR, markR])) ∧ ∀ r ∈ y.rules, r.Kept w
def Pr.like (y x : Pr) : Prop := y.ins = x.ins ∧ y.outs = x.outs ∧ likesR y.rules x.rules
def Pr.fair (x : Pr) : Prop := (x.ia = none → x.ic = 0 ∧ x.ins = []) ∧ (x.oa = none → x.oc = 0 ∧ x.outs = []) ∧ (x.ra = none → x.rc = 0 ∧ x.rules = []) ∧ (∀ r ∈ x.rules, r.fair) ∧ x.ins.length ≤ 1048576 ∧ x.outs.length ≤ 1048576 ∧ x.rules.length ≤ 1048576
theorem Pr.Kept.stay {y : Pr} {w w' : World} (h : y.Kept w) (hs : Stay w w') : y.Kept w' :=
  ⟨⟨h.1.1, h.1.2.1, h.1.2.2.1, h.1.2.2.2.stay hs⟩, ⟨h.2.1.1, h.2.1.2.1, h.2.1.2.2.1, h.2.1.2.2.2.stay hs⟩, ⟨h.2.2.1.1, h.2.2.1.2.1, h.2.2.1.2.2.1, h.2.2.1.2.2.2.stay hs⟩, fun r hr => (h.2.2.2 r hr).stay hs⟩
theorem Pr.Kept.in {y : Pr} {w : World} (h : y.Kept w) : y.In w := ⟨h.1.2.2.2.left, h.2.1.2.2.2.left, h.2.2.1.2.2.2.left, fun r hr => (h.2.2.2 r hr).in⟩

/-- Between two rounds: the first rules are copied. -/
def Cr (w : World) (rs : List Ru) (v i : Value) (W : World) : Prop :=
  ∃ (k : Nat) (cs : List Ru), i = .int .i64 (k : Int) ∧ k ≤ rs.length ∧ likesR cs (rs.take k) ∧ OwnR 27 3 encRu w.heap.size W v cs ∧ (∀ y ∈ cs, y.Kept W ∧ y.apart v.ownBlock ∧ y.past w.heap.size) ∧ Stay w W
theorem Cr.step {w wr W1 w2 : World} {rs cs : List Ru} {k : Nat} {v v' : Value} {y : Ru} {o : Obj} (hkl : k < rs.length) (hx : y.like rs[k])
    (hlk : likesR cs (rs.take k)) (hown : OwnR 27 3 encRu w.heap.size wr v cs) (hall : ∀ y ∈ cs, y.Kept wr ∧ y.apart v.ownBlock ∧ y.past w.heap.size) (hst : Stay w wr)
    (hke : y.Kept W1) (hyb : y.past wr.heap.size) (hs1 : Stay wr W1) (hown2 : OwnR 27 3 encRu w.heap.size w2 v' (cs ++ [y])) (hgrow : (W1.alloc o).grownBy w2 v.ownBlock) (hat : v'.ownBlock = v.ownBlock ∨ v'.ownBlock = some (W1.alloc o).heap.size) :
    Cr w rs v' (.int .i64 ((k + 1 : Nat) : Int)) w2 := by
  have hsA : Stay wr (W1.alloc o) := hs1.alloc o
  have hz : (W1.alloc o).heap.size = W1.heap.size + 1 := by simp
  have hlt1 := hs1.size
  have hlt0 := hst.size
  refine ⟨k + 1, cs ++ [y], rfl, hkl, ?_, hown2, fun z hz' => ?_, ?_⟩
  · rw [List.take_succ_eq_append_getElem hkl]
    exact likesR_snoc hlk hx
  · rw [List.mem_append, List.mem_singleton] at hz'
    rcases hz' with hz' | rfl
    · obtain ⟨h1, h2, h3⟩ := hall z hz'
      obtain ⟨l1, l2, l3⟩ := h1.lt
      refine ⟨(h1.stay hsA).grown hgrow h2, ?_, h3⟩
      rcases hat with h | h
      · rw [h]; exact h2
      · rw [h]
        exact ⟨fun e => by simp at e; omega, fun e => by simp at e; omega, fun q hq e => by have := l3 q hq; simp at e; omega⟩
    · obtain ⟨l1, l2, l3⟩ := hke.lt
      have hne : z.apart v.ownBlock := ⟨fun e => by have := (hown.lt _ e).2; have := hyb.1; omega, fun e => by have := (hown.lt _ e).2; have := hyb.2.1; omega, fun q hq e => by have := (hown.lt _ e).2; have := hyb.2.2 q hq; omega⟩
      refine ⟨(hke.stay (Stay.new W1 o)).grown hgrow hne, ?_, Nat.le_trans hlt0 hyb.1, Nat.le_trans hlt0 hyb.2.1, fun q hq => Nat.le_trans hlt0 (hyb.2.2 q hq)⟩
      rcases hat with h | h
      · rw [h]; exact hne
      · rw [h]
        exact ⟨fun e => by simp at e; omega, fun e => by simp at e; omega, fun q hq e => by have := l3 q hq; simp at e; omega⟩
  · exact ownR_grow (hst.trans hsA) (Nat.le_refl _) (hown.stay hsA) hgrow
/-- The marks behind the rules. -/
theorem Cr.last {w W w2 : World} {cs : List Ru} {v : Value} {o : Obj} (hown : OwnR 27 3 encRu w.heap.size W v cs) (hall : ∀ y ∈ cs, y.Kept W ∧ y.apart v.ownBlock ∧ y.past w.heap.size) (hst : Stay w W)
    (hgrow : (W.alloc o).grownBy w2 v.ownBlock) : (∀ y ∈ cs, y.Kept w2 ∧ y.past w.heap.size) ∧ Stay w w2 :=
  ⟨fun y hy => ⟨((hall y hy).1.stay (Stay.new W o)).grown hgrow (hall y hy).2.1, (hall y hy).2.2⟩, ownR_grow (hst.trans (Stay.new W o)) (Nat.le_refl _) (hown.stay (Stay.new W o)) hgrow⟩

set_option maxRecDepth 100000 in
set_option maxHeartbeats 8000000 in
theorem copyProgram_any (x : Pr) (w : World) (hM : x.In w) (hf : x.fair) : Calls Try.prog 23 #[x.v] w fun e w' => ∃ y : Pr, e = .returned y.v ∧ y.like x ∧ y.Kept w' ∧ Stay w w' := by
  obtain ⟨ia, ib, io, ic, ins, oa, ob, oo, oc, outs, ra, rb, ro, rc, rules⟩ := x
  obtain ⟨hI, hO, hR, hRi⟩ := hM
  obtain ⟨hfi, hfo, hfr, hfs, hn1, hn2, hn3⟩ := hf
  unfold Pr.v
  dsimp only at *
  obtain ⟨w0, hw0⟩ : ∃ w0, w0 = (w.alloc (.cells #[.slice ia ins.length ic, .slice oa outs.length oc, .slice ra rules.length rc] 43)).alloc (.cells #[.slice none 0 0, .slice none 0 0, .slice none 0 0] 43) := ⟨_, rfl⟩
  have hs0 : Stay w w0 := by rw [hw0]; exact (Stay.new w _).trans (Stay.new _ _)
  have hz0 : w0.heap.size = w.heap.size + 2 := by rw [hw0]; simp
  obtain ⟨v1, w1, hr1, ho1, hg1, _, _⟩ := append_recs (P := Try.prog) (ty := 40) encInpOk Try.underlying40 infoInp rfl (OwnR.nil (base := w0.heap.size)) (RecS.stay hI hs0) hfi (by simp [maxLen]; omega) (by simp; omega) (Nat.le_refl _)
  have hs1 : Stay w0 w1 := ownR_grow (Stay.refl _) (Nat.le_refl _) (OwnR.nil (t := 100) (n := 3) (enc := encInp)) hg1
  obtain ⟨v2, w2, hr2, ho2, hg2, _, _⟩ := append_recs (P := Try.prog) (ty := 40) encInpOk Try.underlying40 infoInp rfl (ho1.alloc (.cells (cellsR encInp [markI, markI]).toArray 100)) (recs_lit encInpOk w1 [markI, markI] 100) (c := 2) (fun h => nomatch h) (by simp [maxLen]; omega) (by simp; omega) (by rw [World.size_alloc]; exact Nat.le_succ_of_le hs1.size)
  have hs2 : Stay w0 w2 := ownR_grow (hs1.alloc _) (Nat.le_refl _) (ho1.alloc _) hg2
  obtain ⟨v3, w3, hr3, ho3, hg3, _, _⟩ := append_recs (P := Try.prog) (ty := 41) encOupOk Try.underlying41 infoOup rfl (OwnR.nil (base := w2.heap.size)) (RecS.stay hO (hs0.trans hs2)) hfo (by simp [maxLen]; omega) (by simp; omega) (Nat.le_refl _)
  have hs3 : Stay w2 w3 := ownR_grow (Stay.refl _) (Nat.le_refl _) (OwnR.nil (t := 102) (n := 2) (enc := encOup)) hg3
  obtain ⟨v4, w4, hr4, ho4, hg4, _, _⟩ := append_recs (P := Try.prog) (ty := 41) encOupOk Try.underlying41 infoOup rfl (ho3.alloc (.cells (cellsR encOup [markO, markO]).toArray 102)) (recs_lit encOupOk w3 [markO, markO] 102) (c := 2) (fun h => nomatch h) (by simp [maxLen]; omega) (by simp; omega) (by rw [World.size_alloc]; exact Nat.le_succ_of_le hs3.size)
  have hs4 : Stay w2 w4 := ownR_grow (hs3.alloc _) (Nat.le_refl _) (ho3.alloc _) hg4
  rw [List.nil_append] at ho2 ho4
  obtain ⟨a2, b2, c2, rfl, hR2, _, hpos2, hle2, hmx2⟩ := ho2.form encInpOk
  obtain rfl := hpos2 (by simp)
  obtain ⟨a4, b4, c4, rfl, hR4, _, hpos4, hle4, hmx4⟩ := ho4.form encOupOk
  obtain rfl := hpos4 (by simp)
  rw [List.length_append] at hr2 hle2 hr4 hle4
  simp only [List.length_cons, List.length_nil] at hr2 hle2 hr4 hle4
  have hb2 := (ho2.lt b2 rfl).1
  have hb4 := (ho4.lt b4 rfl).1
  have hz2 := hs2.size
  have k0 : w0.cell? ⟨w.heap.size, 0, none⟩ = some (.slice ia ins.length ic) := by rw [hw0]; simp
  have k1 : w0.cell? ⟨w.heap.size, 1, none⟩ = some (.slice oa outs.length oc) := by rw [hw0]; simp
  have k2 : w0.cell? ⟨w.heap.size, 2, none⟩ = some (.slice ra rules.length rc) := by rw [hw0]; simp
  have kb : w0.heap[w.heap.size + 1]? = some (.cells #[.slice none 0 0, .slice none 0 0, .slice none 0 0] 43 (0, 0)) := by
    have h := heap_new (w.alloc (.cells #[.slice ia ins.length ic, .slice oa outs.length oc, .slice ra rules.length rc] 43)) (.cells #[.slice none 0 0, .slice none 0 0, .slice none 0 0] 43)
    rw [show (w.alloc (.cells #[.slice ia ins.length ic, .slice oa outs.length oc, .slice ra rules.length rc] 43)).heap.size = w.heap.size + 1 from by simp] at h
    rw [hw0]; exact h
  have hs04 : Stay w0 w4 := hs2.trans hs4
  have k21 := hs2.cell k1
  have HB : Hid (∀ W, Stay w4 W → W.heap[w.heap.size + 1]? = some (.cells #[.slice none 0 0, .slice none 0 0, .slice none 0 0] 43 (0, 0)) ∧ W.cell? ⟨w.heap.size, 0, none⟩ = some (.slice ia ins.length ic) ∧ W.cell? ⟨w.heap.size, 1, none⟩ = some (.slice oa outs.length oc) ∧ W.cell? ⟨w.heap.size, 2, none⟩ = some (.slice ra rules.length rc)) := fun W hW =>
    ⟨((hs04.trans hW).block _ (by omega)).trans kb, (hs04.trans hW).cell k0, (hs04.trans hW).cell k1, (hs04.trans hW).cell k2⟩
  have HL : Hid (RecS 3 encInp w4 (some ⟨b2, 0, none⟩) b2 0 (ins ++ [markI, markI]) ∧ RecS 2 encOup w4 (some ⟨b4, 0, none⟩) b4 0 (outs ++ [markO, markO]) ∧ w.heap.size + 2 ≤ b2 ∧ w.heap.size + 2 ≤ b4 ∧ ins.length + 2 ≤ c2 ∧ c2 ≤ maxLen ∧ outs.length + 2 ≤ c4 ∧ c4 ≤ maxLen) := ⟨hR2.stay hs4, hR4, by omega, by omega, hle2, hmx2, hle4, hmx4⟩
  have HS : Hid (Stay w w4) := hs0.trans hs04
  have HZ : Hid (w.heap.size + 2 ≤ w4.heap.size) := by have := hs04.size; show _ ≤ _; omega
  have HR : Hid (RecS 3 encRu w ra rb ro rules ∧ (∀ r ∈ rules, r.In w ∧ r.fair)) := ⟨hR, fun r hr => ⟨hRi r hr, hfs r hr⟩⟩
  have HA : Hid (0 < rules.length → ra = some ⟨rb, ro, none⟩) := hR.1
  have H0 : Hid (Cr w4 rules (.slice none 0 0) (.int .i64 0) w4) := ⟨0, [], rfl, Nat.zero_le _, by simpa using likesR_nil, OwnR.nil, fun _ h => absurd h List.not_mem_nil, Stay.refl _⟩
  have HI : Hid (Stay w (w.alloc (.cells #[.slice ia ins.length ic, .slice oa outs.length oc, .slice ra rules.length rc] 43))) := Stay.new _ _
  clear hI hO hR hRi hfi hfo hfr hfs hs0 hs1 hs2 hs3 hs4 hs04 hg1 hg2 hg3 hg4 ho1 ho2 ho3 ho4 hR2 hR4 kb hz0 hz2 hb2 hb4 hpos2 hpos4 hmx2 hmx4 k1 k2
  subst hw0
  have hc2 : ins.length ≤ c2 := by omega
  have hc4 : outs.length ≤ c4 := by omega
  clear hle2 hle4
  generalize hm1 : ins.length = m1 at *
  generalize hm2 : outs.length = m2 at *
  generalize hm3 : rules.length = m3 at *
  have HM : Hid (ins.length = m1 ∧ outs.length = m2 ∧ rules.length = m3) := ⟨hm1, hm2, hm3⟩
  clear hm1 hm2 hm3
  have hc2i : (m1 : Int) ≤ (c2 : Int) := by omega
  have hc4i : (m2 : Int) ≤ (c4 : Int) := by omega
  go_enter Try.func23, Try.ntmps23
  go_wp2_with (first
    | (at_builtin; refine wpList_append_run rfl (.const (.slice none 0 0)) (.tmp 8) 40 40 rfl _ _ rfl rfl hr1 ?_; clear hr1)
    | (at_builtin; refine wpList_append_run rfl (.tmp 9) (.tmp 12) 40 40 rfl _ _ rfl rfl hr2 ?_; clear hr2)
    | (at_builtin; refine wpList_append_run rfl (.const (.slice none 0 0)) (.tmp 15) 41 41 rfl _ _ rfl rfl hr3 ?_; clear hr3)
    | (at_builtin; refine wpList_append_run rfl (.tmp 16) (.tmp 19) 41 41 rfl _ _ rfl rfl hr4 ?_; clear hr4))
  go_loopw [5, 6] (fun v i wr => Cr w4 rules v i wr) (fun _ i _ => m3 - (intOf i).toNat)
  case atStart => exact H0.out
  case round =>
    obtain ⟨k, cs, rfl, hk, hlk, hown, hall, hst⟩ := hrel
    clear H0
    obtain ⟨-, d0, d1, d2⟩ := HB.out wr hst
    rw [HM.out.2.2] at hk
    by_cases hlt : k < m3
    · have hkl : k < rules.length := by rw [HM.out.2.2]; exact hlt
      have hki : (k : Int) < (m3 : Int) := by omega
      have hki0 : (0 : Int) ≤ (k : Int) := by omega
      obtain rfl := HA.out (by omega)
      have hsw : Stay w wr := HS.out.trans hst
      have g0 : wr.cell? ⟨rb, ro + k * 3, none⟩ = some (.string rules[k].head.pred) := hsw.cell (HR.out.1.2 k hkl 0 _ rfl)
      have g1 := hsw.cell (HR.out.1.2 k hkl 1 _ rfl)
      have g2 := hsw.cell (HR.out.1.2 k hkl 2 _ rfl)
      have hcr := copyRule_new rules[k] wr (Ru.stay (HR.out.2 _ (List.getElem_mem hkl)).1 hsw) (HR.out.2 _ (List.getElem_mem hkl)).2
      have HLk : Hid (∀ y : Ru, y.like rules[k] → y.like rules[k]) := fun _ h => h
      obtain ⟨xx, hxx⟩ : ∃ xx, rules[k] = xx := ⟨_, rfl⟩
      rw [hxx] at g0 g1 g2 hcr
      have HX : Hid (rules[k] = xx) := hxx
      clear hxx HLk
      have hcm : cs.length + 1 ≤ maxLen := by have := hlk.1; rw [List.length_take] at this; unfold maxLen; omega
      have hcb : (cs.length + 1) * 64 ≤ 140737488355328 := by have := hlk.1; rw [List.length_take] at this; omega
      have HC : Hid (likesR cs (rules.take k) ∧ OwnR 27 3 encRu w4.heap.size wr u5 cs ∧ (∀ y ∈ cs, y.Kept wr ∧ y.apart u5.ownBlock ∧ y.past w4.heap.size) ∧ Stay w4 wr) := ⟨hlk, hown, hall, hst⟩
      obtain ⟨⟨xp, xa, xb, xo, xc, xts⟩, ya, yb, yo, yc, yls⟩ := xx
      unfold Ru.v At.sl at hcr
      unfold At.sl at g1
      dsimp only at g0 g1 g2 hcr
      generalize xts.length = xn at *
      generalize yls.length = yn at *
      clear hlk hown hall hst hsw
      go_wp2_with (first
        | (go_at_call 8; (refine hcr.mono ?_; rintro e W1 ⟨⟨⟨zp, za, zb, zo, zc, zts⟩, ta, tb, to, tc, tls⟩, rfl, hlk1, hke, hpa, hs1⟩; dsimp only; obtain ⟨v', W2, hr5, ho5, hg5, -, hat5⟩ := append_recs (P := Try.prog) (ty := 39) encRuOk Try.underlying39 infoRu rfl ((OwnR.stay HC.out.2.1 hs1).alloc (.cells (cellsR encRu [⟨⟨zp, za, zb, zo, zc, zts⟩, ta, tb, to, tc, tls⟩]).toArray 27)) (recs_lit encRuOk W1 [⟨⟨zp, za, zb, zo, zc, zts⟩, ta, tb, to, tc, tls⟩] 27) (c := 1) (fun h => nomatch h) hcm hcb (by rw [World.size_alloc]; exact Nat.le_succ_of_le (Nat.le_trans HC.out.2.2.2.size hs1.size))))
        | (at_builtin; refine wpList_append_run rfl (.tmp 28) (.tmp 35) 39 39 rfl _ _ rfl rfl hr5 ?_; clear hr5))
      have HNX : Hid (Cr w4 rules v' (.int .i64 ((k + 1 : Nat) : Int)) W2) := Cr.step hkl (by rw [HX.out]; exact hlk1) HC.out.1 HC.out.2.1 HC.out.2.2.1 HC.out.2.2.2 hke hpa hs1 ho5 hg5 hat5
      clear hlk1 hke hpa hs1 ho5 hg5 hat5
      go_roundw
      case rel => exact HNX.out
      case measure => simp [intOf]; omega
    · obtain rfl : k = m3 := by omega
      have hge : ¬ (k : Int) < (k : Int) := by omega
      have hcl : cs.length = k := by have := hlk.1; rw [List.length_take, HM.out.2.2] at this; omega
      obtain ⟨v5, w5, hr5, ho5, hg5, -, -⟩ := append_recs (P := Try.prog) (ty := 39) encRuOk Try.underlying39 infoRu rfl (hown.alloc (.cells (cellsR encRu [markR, markR]).toArray 27)) (recs_lit encRuOk wr [markR, markR] 27) (c := 2) (fun h => nomatch h) (by simp [maxLen]; omega) (by simp; omega) (by rw [World.size_alloc]; exact Nat.le_succ_of_le hst.size)
      obtain ⟨hall5, hs5⟩ := Cr.last hown hall hst hg5
      obtain ⟨a5, b5, c5, rfl, hR5, _, hpos5, hle5, hmx5⟩ := ho5.form encRuOk
      obtain rfl := hpos5 (by simp)
      have hb5 := (ho5.lt b5 rfl).1
      rw [List.length_append, hcl] at hr5 hle5
      simp only [List.length_cons, List.length_nil] at hr5 hle5
      obtain ⟨kb, e0, e1, e2⟩ := HB.out w5 hs5
      have f0 : w5.frozen? ⟨w.heap.size + 1, 0, none⟩ = false := Lib.frozen_of_heap kb 0
      have f1 : w5.frozen? ⟨w.heap.size + 1, 1, none⟩ = false := Lib.frozen_of_heap kb 1
      have f2 : w5.frozen? ⟨w.heap.size + 1, 2, none⟩ = false := Lib.frozen_of_heap kb 2
      have n0 : w5.cell? ⟨w.heap.size + 1, 0, none⟩ = some (.slice none 0 0) := by rw [Lib.cell_of_heap kb]; rfl
      have n1 : w5.cell? ⟨w.heap.size + 1, 1, none⟩ = some (.slice none 0 0) := by rw [Lib.cell_of_heap kb]; rfl
      have n2 : w5.cell? ⟨w.heap.size + 1, 2, none⟩ = some (.slice none 0 0) := by rw [Lib.cell_of_heap kb]; rfl
      have hc5 : k ≤ c5 := by omega
      have hc5i : (k : Int) ≤ (c5 : Int) := by omega
      have HF : Hid (likesR cs rules ∧ RecS 3 encRu w5 (some ⟨b5, 0, none⟩) b5 0 (cs ++ [markR, markR]) ∧ (∀ y ∈ cs, y.Kept w5 ∧ y.past w4.heap.size) ∧ Stay w4 w5 ∧ w4.heap.size ≤ b5 ∧ k + 2 ≤ c5 ∧ c5 ≤ maxLen ∧ cs.length = k) := ⟨by have := hlk; rwa [List.take_of_length_le (by rw [HM.out.2.2]; omega)] at this, hR5, hall5, hs5, hb5, hle5, hmx5, hcl⟩
      clear hlk hown hall hst hg5 ho5 hall5 hs5 hR5 hpos5 hmx5 hb5 hcl hle5 kb
      go_wp2_with (first
        | (at_builtin; refine wpList_append_run rfl (.tmp 37) (.tmp 42) 39 39 rfl _ _ rfl rfl hr5 ?_; clear hr5))
      go_region
      go_wp2
      refine bodyPost_ret (v := .agg #[.slice (some ⟨b2, 0, none⟩) m1 c2, .slice (some ⟨b4, 0, none⟩) m2 c4, .slice (some ⟨b5, 0, none⟩) k c5]) (by simp [results, Try.results23, go_sem, n0, n1, n2]) rfl ?_
      obtain ⟨q1, q2, q3, q4, q5, q6, q7, q8⟩ := HL.out
      obtain ⟨p1, p2, p3, p4, p5, p6, p7, p8⟩ := HF.out
      have hz4 := HZ.out
      have t2 : b2 ≠ w.heap.size + 1 := by omega
      have t4 : b4 ≠ w.heap.size + 1 := by omega
      have t5 : b5 ≠ w.heap.size + 1 := by omega
      refine ⟨⟨some ⟨b2, 0, none⟩, b2, 0, c2, ins, some ⟨b4, 0, none⟩, b4, 0, c4, outs, some ⟨b5, 0, none⟩, b5, 0, c5, cs⟩, ?_, ⟨rfl, rfl, p1⟩, ⟨⟨rfl, ?_, q6, ?_⟩, ⟨rfl, ?_, q8, ?_⟩, ⟨rfl, ?_, p7, ?_⟩, fun r hr => ?_⟩, ?_⟩
      · show _ = Ending.returned (.agg #[.slice (some ⟨b2, 0, none⟩) ins.length c2, .slice (some ⟨b4, 0, none⟩) outs.length c4, .slice (some ⟨b5, 0, none⟩) cs.length c5])
        rw [HM.out.1, HM.out.2.1, p8]
      · show ins.length + 2 ≤ c2
        rw [HM.out.1]; exact q5
      · exact (((q1.stay p4).set _ t2).set _ t2).set _ t2
      · show outs.length + 2 ≤ c4
        rw [HM.out.2.1]; exact q7
      · exact (((q2.stay p4).set _ t4).set _ t4).set _ t4
      · show cs.length + 2 ≤ c5
        rw [p8]; exact p6
      · exact ((p2.set _ t5).set _ t5).set _ t5
      · obtain ⟨u1, u2⟩ := p3 r hr
        have ua : r.apart (some (w.heap.size + 1)) := ⟨fun e => by have := u2.1; simp at e; omega, fun e => by have := u2.2.1; simp at e; omega, fun q hq e => by have := u2.2.2 q hq; simp at e; omega⟩
        exact ((u1.set _ ua).set _ ua).set _ ua
      · exact ((((HS.out.trans p4).setCell (p := ⟨w.heap.size + 1, 0, none⟩) (Nat.le_succ _) _).setCell (p := ⟨w.heap.size + 1, 1, none⟩) (Nat.le_succ _) _).setCell (p := ⟨w.heap.size + 1, 2, none⟩) (Nat.le_succ _) _).drew
end Go.Proofs.Ytcincbckpnmkiaa
