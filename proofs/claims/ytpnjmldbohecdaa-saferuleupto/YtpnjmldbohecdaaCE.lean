/- A rule copied: CopyRule. -/
import Derived.Test.YtpnjmldbohecdaaCD
namespace Go.Proofs.Ytpnjmldbohecdaa
open Go.RowKit Go.Maps

/-- A rule in memory of its own, with marks behind each list. -/
def Ru.Kept (x : Ru) (w : World) : Prop := x.head.Kept w ∧ x.a = some ⟨x.b, x.off, none⟩ ∧ x.body.length + 2 ≤ x.cap ∧ x.cap ≤ maxLen ∧ RecS 7 encLi w x.a x.b x.off (x.body ++ [markL, markL]) ∧ ∀ y ∈ x.body, y.atom.Kept w
def Ru.like (y x : Ru) : Prop := y.head.like x.head ∧ likes y.body x.body
def Ru.fair (x : Ru) : Prop := x.head.fair ∧ (x.head.ts.length + 2) * 24 ≤ 140737488355328 ∧ (x.a = none → x.cap = 0 ∧ x.body = []) ∧ (x.body.length + 2) * 96 ≤ 140737488355328 ∧ ∀ y ∈ x.body, y.atom.fair ∧ (y.atom.ts.length + 2) * 24 ≤ 140737488355328
theorem Ru.Kept.stay {x : Ru} {w w' : World} (h : x.Kept w) (hs : Stay w w') : x.Kept w' := ⟨h.1.stay hs, h.2.1, h.2.2.1, h.2.2.2.1, h.2.2.2.2.1.stay hs, fun y hy => (h.2.2.2.2.2 y hy).stay hs⟩
theorem Ru.Kept.in {x : Ru} {w : World} (h : x.Kept w) : x.In w := ⟨h.1.in, h.2.2.2.2.1.left.lis (fun y hy => (h.2.2.2.2.2 y hy).in)⟩

/-- All its lists lie at b or behind. -/
def Ru.past (y : Ru) (b : Nat) : Prop := b ≤ y.head.b ∧ b ≤ y.b ∧ ∀ z ∈ y.body, b ≤ z.atom.b

theorem three_keep {W W' : World} {b : Nat} {c0 c1 c2 : Value} (h : W.cell? ⟨b, 0, none⟩ = some c0 ∧ W.cell? ⟨b, 1, none⟩ = some c1 ∧ W.cell? ⟨b, 2, none⟩ = some c2) (hs : Stay W W') :
    W'.cell? ⟨b, 0, none⟩ = some c0 ∧ W'.cell? ⟨b, 1, none⟩ = some c1 ∧ W'.cell? ⟨b, 2, none⟩ = some c2 := ⟨hs.cell h.1, hs.cell h.2.1, hs.cell h.2.2⟩

theorem three_store {W : World} {n : Nat} {c0 c1 c2 x0 x1 x2 : Value} (h : W.cell? ⟨n, 0, none⟩ = some c0 ∧ W.cell? ⟨n, 1, none⟩ = some c1 ∧ W.cell? ⟨n, 2, none⟩ = some c2) :
    (((W.setCell ⟨n + 1, 0, none⟩ x0).setCell ⟨n + 1, 1, none⟩ x1).setCell ⟨n + 1, 2, none⟩ x2).cell? ⟨n, 0, none⟩ = some c0 ∧ (((W.setCell ⟨n + 1, 0, none⟩ x0).setCell ⟨n + 1, 1, none⟩ x1).setCell ⟨n + 1, 2, none⟩ x2).cell? ⟨n, 1, none⟩ = some c1 ∧ (((W.setCell ⟨n + 1, 0, none⟩ x0).setCell ⟨n + 1, 1, none⟩ x1).setCell ⟨n + 1, 2, none⟩ x2).cell? ⟨n, 2, none⟩ = some c2 := by
  have hne : n ≠ n + 1 := by omega
  refine ⟨?_, ?_, ?_⟩
  all_goals rw [cell_set_other _ hne, cell_set_other _ hne, cell_set_other _ hne]
  · exact h.1
  · exact h.2.1
  · exact h.2.2
theorem RecS.set {α : Type} {n : Nat} {enc : α → List Value} {w : World} {a : Option Addr} {b off : Nat} {xs : List α} (h : RecS n enc w a b off xs) {p : Addr} (v : Value) (hn : b ≠ p.block) : RecS n enc (w.setCell p v) a b off xs :=
  ⟨h.1, fun j hj i u hu => by rw [cell_set_other _ hn]; exact h.2 j hj i u hu⟩
theorem At.Kept.set {x : At} {w : World} (h : x.Kept w) {p : Addr} (v : Value) (hn : x.b ≠ p.block) : x.Kept (w.setCell p v) := ⟨h.1, h.2.1, h.2.2.1, h.2.2.2.set v hn⟩

theorem box_there {w w0 W1 W2 : World} {o : Obj} (h0 : w0.heap.size = w.heap.size + 2) (hk : w0.heap[w.heap.size + 1]? = some o) (h1 : Stay w0.drew W1) (h2 : Stay W1 W2) : W2.heap[w.heap.size + 1]? = some o := by
  have hl : w.heap.size + 1 < w0.drew.heap.size := by show w.heap.size + 1 < w0.heap.size; omega
  have e1 : W1.heap[w.heap.size + 1]? = some o := (h1.block _ hl).trans hk
  exact (h2.block _ (Array.getElem?_eq_some_iff.1 e1).1).trans e1

set_option maxRecDepth 100000 in
set_option maxHeartbeats 4000000 in
theorem copyRule_new (x : Ru) (w : World) (hM : x.In w) (hf : x.fair) : Calls Try.prog 4 #[x.v] w fun e w' => ∃ y : Ru, e = .returned y.v ∧ y.like x ∧ y.Kept w' ∧ y.past w.heap.size ∧ Stay w w' := by
  obtain ⟨w0, hw0⟩ : ∃ w0, w0 = (w.alloc (.cells #[.string x.head.pred, x.head.sl, .slice x.a x.body.length x.cap] 27)).alloc (.cells #[.string ⟨#[]⟩, .slice none 0 0, .slice none 0 0] 27) := ⟨_, rfl⟩
  have hs0 : Stay w w0 := by rw [hw0]; exact (Stay.new w _).trans (Stay.new _ _)
  have hca := fun (V : World) (hV : Stay w V) => copyAtom_any x.head V (TmsS.stay hM.1 hV) hf.1 hf.2.1
  have hcb := fun (V : World) (hV : Stay w V) => copyBody_any V x.a x.b x.off x.cap x.body (hM.2.stay hV) hf.2.2.2.2 hf.2.2.2.1
  obtain ⟨⟨p, ha, hbk, hof, hcap, hts⟩, a, bk, off, cap, ls⟩ := x
  unfold Ru.v At.sl at *
  dsimp only at *
  have hS : w0.cell? ⟨w.heap.size, 0, none⟩ = some (.string p) ∧ w0.cell? ⟨w.heap.size, 1, none⟩ = some (.slice ha hts.length hcap) ∧ w0.cell? ⟨w.heap.size, 2, none⟩ = some (.slice a ls.length cap) := by rw [hw0]; simp
  have hca2 : ∀ V : World, Stay w V → Calls Try.prog 19 #[.agg #[.string p, .slice ha hts.length hcap]] V fun e w' => ∃ yb yo yc, e = .returned (.agg #[.string p, .slice (some ⟨yb, yo, none⟩) hts.length yc]) ∧ At.Kept ⟨p, some ⟨yb, yo, none⟩, yb, yo, yc, hts⟩ w' ∧ V.heap.size ≤ yb ∧ Stay V w' := by
    intro V hV
    refine (hca V hV).mono ?_
    rintro e w' ⟨⟨yp, ya, yb, yo, yc, ys⟩, rfl, hl, hke, hyb, hsv⟩
    obtain rfl : yp = p := hl.1
    obtain rfl : ys = hts := hl.2
    obtain rfl : ya = some ⟨yb, yo, none⟩ := hke.1
    exact ⟨yb, yo, yc, rfl, hke, hyb, hsv⟩
  have hz0 : w0.heap.size = w.heap.size + 2 := by rw [hw0]; simp
  have k2 : w0.heap[w.heap.size + 1]? = some (.cells #[.string ⟨#[]⟩, .slice none 0 0, .slice none 0 0] 27 (0, 0)) := by
    have h := heap_new (w.alloc (.cells #[.string p, .slice ha hts.length hcap, .slice a ls.length cap] 27)) (.cells #[.string ⟨#[]⟩, .slice none 0 0, .slice none 0 0] 27)
    rw [show (w.alloc (.cells #[.string p, .slice ha hts.length hcap, .slice a ls.length cap] 27)).heap.size = w.heap.size + 1 from by simp] at h
    rw [hw0]; exact h
  have HK : Hid (w0.heap.size = w.heap.size + 2 ∧ w0.heap[w.heap.size + 1]? = some (.cells #[.string ⟨#[]⟩, .slice none 0 0, .slice none 0 0] 27 (0, 0))) := ⟨hz0, k2⟩
  have HN : Hid (Stay w w0) := hs0
  clear hca hM hf hz0 k2 hs0
  generalize hm : hts.length = m at *
  have HMm : Hid (hts.length = m) := hm
  have HLn : Hid (ls.length = ls.length) := rfl
  generalize hn : ls.length = n at hS hcb hw0 ⊢
  have HNn : Hid (ls.length = n) := hn
  clear hm hn HLn
  go_enter Try.func4, Try.ntmps4
  go_wp2_with fail
  rw [← hw0]
  clear hw0
  have hS' : w0.drew.cell? ⟨w.heap.size, 0, none⟩ = some (.string p) ∧ w0.drew.cell? ⟨w.heap.size, 1, none⟩ = some (.slice ha m hcap) ∧ w0.drew.cell? ⟨w.heap.size, 2, none⟩ = some (.slice a n cap) := hS
  clear hS
  go_region_held3 (fun W => W.cell? ⟨w.heap.size, 0, none⟩ = some (.string p) ∧ W.cell? ⟨w.heap.size, 1, none⟩ = some (.slice ha m hcap) ∧ W.cell? ⟨w.heap.size, 2, none⟩ = some (.slice a n cap))
    (first | assumption | (exact three_keep (by assumption) (by assumption)) | (exact three_store (by assumption)))
    (first
      | (go_at_call 19; refine (hca2 _ (Below.drew HN.out)).mono ?_; rintro e W1 ⟨yb, yo, yc, rfl, hke, hyb, hs1⟩)
      | (go_at_call 20; refine (hcb _ (Below.trans (Below.drew HN.out) (hs1.mono (by have := HK.out.1; show w.heap.size ≤ w0.heap.size; omega)))).mono ?_; rintro e W2 ⟨g, c, cs, rfl, hlk, hR, hle, hmx, hall, hgb, hs2⟩; have hbx := box_there HK.out.1 HK.out.2 hs1 hs2; have m0 : W2.cell? ⟨w.heap.size + 1, 0, none⟩ = some (.string ⟨#[]⟩) := (by rw [Lib.cell_of_heap hbx]; rfl); have m1 : W2.cell? ⟨w.heap.size + 1, 1, none⟩ = some (.slice none 0 0) := (by rw [Lib.cell_of_heap hbx]; rfl); have m2 : W2.cell? ⟨w.heap.size + 1, 2, none⟩ = some (.slice none 0 0) := (by rw [Lib.cell_of_heap hbx]; rfl); have f0 : W2.frozen? ⟨w.heap.size + 1, 0, none⟩ = false := Lib.frozen_of_heap hbx 0; have f1 : W2.frozen? ⟨w.heap.size + 1, 1, none⟩ = false := Lib.frozen_of_heap hbx 1; have f2 : W2.frozen? ⟨w.heap.size + 1, 2, none⟩ = false := Lib.frozen_of_heap hbx 2))
  have HF : Hid (∃ y : Ru, y.v = .agg #[.string p, .slice (some ⟨yb, yo, none⟩) m yc, .slice (some ⟨g, 0, none⟩) n c] ∧ y.like ⟨⟨p, ha, hbk, hof, hcap, hts⟩, a, bk, off, cap, ls⟩ ∧ y.Kept (((W2.setCell ⟨w.heap.size + 1, 0, none⟩ (.string p)).setCell ⟨w.heap.size + 1, 1, none⟩ (.slice (some ⟨yb, yo, none⟩) m yc)).setCell ⟨w.heap.size + 1, 2, none⟩ (.slice (some ⟨g, 0, none⟩) n c)) ∧ y.past w.heap.size ∧
      Stay w (((W2.setCell ⟨w.heap.size + 1, 0, none⟩ (.string p)).setCell ⟨w.heap.size + 1, 1, none⟩ (.slice (some ⟨yb, yo, none⟩) m yc)).setCell ⟨w.heap.size + 1, 2, none⟩ (.slice (some ⟨g, 0, none⟩) n c))) := by
    have hz := HK.out.1
    have hyb' : w0.heap.size ≤ yb := hyb
    have hs1' : w0.heap.size ≤ W1.heap.size := hs1.size
    have q1 : yb ≠ w.heap.size + 1 := by omega
    have q2 : g ≠ w.heap.size + 1 := by omega
    have hcs : cs.length = n := by rw [hlk.1, HNn.out]
    refine ⟨⟨⟨p, some ⟨yb, yo, none⟩, yb, yo, yc, hts⟩, some ⟨g, 0, none⟩, g, 0, c, cs⟩, ?_, ⟨⟨rfl, rfl⟩, hlk⟩, ⟨?_, rfl, ?_, hmx, ?_, fun y hy => ?_⟩, ⟨?_, ?_, fun y hy => ?_⟩, ?_⟩
    · show Value.agg #[.string p, .slice (some ⟨yb, yo, none⟩) hts.length yc, .slice (some ⟨g, 0, none⟩) cs.length c] = _
      rw [HMm.out, hcs]
    · exact (((hke.stay hs2).set _ q1).set _ q1).set _ q1
    · show cs.length + 2 ≤ c
      rw [hcs]; exact hle
    · exact ((hR.set _ q2).set _ q2).set _ q2
    · obtain ⟨h1, h2⟩ := hall y hy
      have q3 : y.atom.b ≠ w.heap.size + 1 := by omega
      exact ((h1.set _ q3).set _ q3).set _ q3
    · show w.heap.size ≤ yb
      omega
    · show w.heap.size ≤ g
      omega
    · have h2 := (hall y hy).2
      show w.heap.size ≤ y.atom.b
      omega
    · have hS2 : Stay w W2 := Below.trans (Below.drew HN.out) (Below.trans (hs1.mono (by show w.heap.size ≤ w0.heap.size; omega)) (hs2.mono (by omega)))
      exact ((hS2.setCell (p := ⟨w.heap.size + 1, 0, none⟩) (Nat.le_succ _) _).setCell (p := ⟨w.heap.size + 1, 1, none⟩) (Nat.le_succ _) _).setCell (p := ⟨w.heap.size + 1, 2, none⟩) (Nat.le_succ _) _
  clear hke hyb hs1 hlk hR hle hmx hall hgb hs2 hca2 hcb hS' hbx
  go_wp2
  refine bodyPost_ret (v := .agg #[.string p, .slice (some ⟨yb, yo, none⟩) m yc, .slice (some ⟨g, 0, none⟩) n c]) (by simp [results, Try.results4, go_sem, m0, m1, m2]) rfl ?_
  obtain ⟨y, hy, hrest⟩ := HF.out
  exact ⟨y, congrArg Ending.returned hy.symm, hrest⟩
theorem copyRule_any (x : Ru) (w : World) (hM : x.In w) (hf : x.fair) : Calls Try.prog 4 #[x.v] w fun e w' => ∃ y : Ru, e = .returned y.v ∧ y.like x ∧ y.Kept w' ∧ Stay w w' :=
  (copyRule_new x w hM hf).mono fun _ _ ⟨y, h1, h2, h3, _, h5⟩ => ⟨y, h1, h2, h3, h5⟩
end Go.Proofs.Ytpnjmldbohecdaa
