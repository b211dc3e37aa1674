/- Atoms copied: copyAtom. -/
import Derived.Test.YtpnjmldbohecdaaCR
import Derived.Test.YtpnjmldbohecdaaBA
import Derived.Deep.Cut
namespace Go.Proofs.Ytpnjmldbohecdaa
open Go.RowKit Go.Maps

def encTm (t : Tm) : List Value := [.bool t.var, .string t.text]
theorem encTmOk : EncOk 2 encTm := ⟨fun _ => rfl, fun _ u hu => by simp [encTm] at hu; rcases hu with rfl | rfl <;> rfl, by decide⟩
theorem infoTm : (Try.prog.info? 51).map (fun i => (i.zero, i.size, i.bytes)) = some (some (.agg #[.bool false, .string ⟨#[]⟩]), 2, 24) := by kernel_rfl
theorem TmsS.recs {w : World} {a : Option Addr} {b off : Nat} {ts : List Tm} (h : TmsS w a b off ts) : RecS 2 encTm w a b off ts := by
  refine ⟨h.1, fun j hj i v hv => ?_⟩
  obtain ⟨h0, h1⟩ := h.2 j hj
  match i, hv with
  | 0, hv => simp only [encTm, List.getElem?_cons_zero, Option.some.injEq] at hv; rw [← hv]; exact h0
  | 1, hv => simp only [encTm, List.getElem?_cons_succ, List.getElem?_cons_zero, Option.some.injEq] at hv; rw [← hv]; exact h1
theorem RecS.tms {w : World} {a : Option Addr} {b off : Nat} {ts : List Tm} (h : RecS 2 encTm w a b off ts) : TmsS w a b off ts :=
  ⟨h.1, fun j hj => ⟨h.2 j hj 0 _ rfl, h.2 j hj 1 _ rfl⟩⟩
theorem cell_set_other {w : World} {p q : Addr} (v : Value) (h : q.block ≠ p.block) : (w.setCell p v).cell? q = w.cell? q := by
  unfold World.cell?
  rw [Below.heap_setCell _ _ _ _ h]
/-- The mark behind a list of terms. -/
def markT : Tm := ⟨false, ⟨#[109, 97, 114, 107]⟩⟩
/-- An atom in memory of its own, with marks behind. -/
def At.Kept (x : At) (w : World) : Prop := x.a = some ⟨x.b, x.off, none⟩ ∧ x.ts.length + 2 ≤ x.cap ∧ x.cap ≤ maxLen ∧ RecS 2 encTm w x.a x.b x.off (x.ts ++ [markT, markT])
def At.like (x y : At) : Prop := x.pred = y.pred ∧ x.ts = y.ts
def At.fair (x : At) : Prop := x.a = none → x.cap = 0 ∧ x.ts = []
theorem At.Kept.stay {x : At} {w w' : World} (h : x.Kept w) (hs : Stay w w') : x.Kept w' := ⟨h.1, h.2.1, h.2.2.1, h.2.2.2.stay hs⟩
theorem At.Kept.in {x : At} {w : World} (h : x.Kept w) : x.In w := h.2.2.2.left.tms
theorem At.Kept.fair {x : At} {w : World} (h : x.Kept w) : x.fair := fun e => by rw [h.1] at e; cases e

set_option maxRecDepth 100000 in
set_option maxHeartbeats 2000000 in
theorem copyAtom_any (x : At) (w : World) (hM : x.In w) (hf : x.fair) (hb : (x.ts.length + 2) * 24 ≤ 140737488355328) :
    Calls Try.prog 19 #[x.v] w fun e w' => ∃ y : At, e = .returned y.v ∧ y.like x ∧ y.Kept w' ∧ w.heap.size ≤ y.b ∧ Stay w w' := by
  obtain ⟨p, a, bk, off, cap, ts⟩ := x
  have hM : TmsS w a bk off ts := hM
  have hf : a = none → cap = 0 ∧ ts = [] := hf
  dsimp only at hb
  obtain ⟨w0, hw0⟩ : ∃ w0, w0 = (w.alloc (.cells #[.string p, .slice a ts.length cap] 24)).alloc (.cells #[.string ⟨#[]⟩, .slice none 0 0] 24) := ⟨_, rfl⟩
  have hs0 : Stay w w0 := by rw [hw0]; exact (Stay.new w _).trans (Stay.new _ _)
  obtain ⟨v1, w1, hr1, ho1, hg1, _, _⟩ := append_recs (P := Try.prog) (ty := 22) encTmOk Try.underlying22 infoTm rfl (OwnR.nil (base := w0.heap.size)) ((hM.stay hs0).recs) hf (by simp [maxLen]; omega) (by simp; omega) (Nat.le_refl _)
  have hs1 : Stay w0 w1 := ownR_grow (Stay.refl _) (Nat.le_refl _) (OwnR.nil (t := 51) (n := 2) (enc := encTm)) hg1
  obtain ⟨v2, w2, hr2, ho2, hg2, _, _⟩ := append_recs (P := Try.prog) (ty := 22) encTmOk Try.underlying22 infoTm rfl (ho1.alloc (.cells (cellsR encTm [markT, markT]).toArray 51)) (recs_lit encTmOk w1 [markT, markT] 51) (c := 2) (fun h => nomatch h) (by simp [maxLen]; omega) (by simp; omega) (by rw [World.size_alloc]; exact Nat.le_succ_of_le hs1.size)
  have hs2 : Stay w0 w2 := ownR_grow (hs1.alloc _) (Nat.le_refl _) (ho1.alloc _) hg2
  rw [List.nil_append] at ho2
  obtain ⟨a2, b2, c2, rfl, hR, _, hpos, hle, hmx⟩ := ho2.form encTmOk
  obtain rfl := hpos (by simp)
  rw [List.length_append] at hr2 hle
  simp only [List.length_cons, List.length_nil] at hr2 hle
  have hbb := (ho2.lt b2 rfl).1
  have hz0 : w0.heap.size = w.heap.size + 2 := by rw [hw0]; simp
  have k0 : w0.cell? ⟨w.heap.size, 0, none⟩ = some (.string p) := by rw [hw0]; simp
  have k1 : w0.cell? ⟨w.heap.size, 1, none⟩ = some (.slice a ts.length cap) := by rw [hw0]; simp
  have k2 : w0.heap[w.heap.size + 1]? = some (.cells #[.string ⟨#[]⟩, .slice none 0 0] 24 (0, 0)) := by
    have h := heap_new (w.alloc (.cells #[.string p, .slice a ts.length cap] 24)) (.cells #[.string ⟨#[]⟩, .slice none 0 0] 24)
    rw [show (w.alloc (.cells #[.string p, .slice a ts.length cap] 24)).heap.size = w.heap.size + 1 from by simp] at h
    rw [hw0]; exact h
  have k3 := (hs2.block (w.heap.size + 1) (by omega)).trans k2
  have m0 := hs2.cell k0
  have m1 := hs2.cell k1
  have m2 : w2.cell? ⟨w.heap.size + 1, 0, none⟩ = some (.string ⟨#[]⟩) := by rw [Lib.cell_of_heap k3]; rfl
  have m3 : w2.cell? ⟨w.heap.size + 1, 1, none⟩ = some (.slice none 0 0) := by rw [Lib.cell_of_heap k3]; rfl
  have f0 : w2.frozen? ⟨w.heap.size + 1, 0, none⟩ = false := Lib.frozen_of_heap k3 0
  have f1 : w2.frozen? ⟨w.heap.size + 1, 1, none⟩ = false := Lib.frozen_of_heap k3 1
  have HR : Hid (RecS 2 encTm w2 (some ⟨b2, 0, none⟩) b2 0 (ts ++ [markT, markT]) ∧ Stay w w2 ∧ w.heap.size + 2 ≤ b2 ∧ ts.length + 2 ≤ c2 ∧ c2 ≤ maxLen) := ⟨hR, hs0.trans hs2, by omega, hle, hmx⟩
  have q0 := hs0
  clear hM hf hs0 hs1 hs2 hg1 hg2 ho1 ho2 hR k2 k3 hz0 hbb hpos
  subst hw0
  unfold At.v At.sl
  dsimp only
  generalize hn : ts.length = n at *
  have HN : Hid (ts.length = n) := hn
  clear hn
  have hnc : n ≤ c2 := by omega
  go_enter Try.func19, Try.ntmps19
  go_wp2_with (first
    | (at_builtin; refine wpList_append_run rfl (.const (.slice none 0 0)) (.tmp 5) 22 22 rfl _ _ rfl rfl hr1 ?_; clear hr1)
    | (at_builtin; refine wpList_append_run rfl (.tmp 6) (.tmp 9) 22 22 rfl _ _ rfl rfl hr2 ?_; clear hr2))
  have hnci : (n : Int) ≤ (c2 : Int) := by omega
  clear hb hmx hle
  go_region
  go_wp2
  refine bodyPost_ret (v := .agg #[.string p, .slice (some ⟨b2, 0, none⟩) n c2]) (by simp [results, Try.results19, go_sem, m2, m3]) rfl ?_
  refine ⟨⟨p, some ⟨b2, 0, none⟩, b2, 0, c2, ts⟩, ?_, ⟨rfl, rfl⟩, ⟨rfl, by rw [HN.out]; exact HR.out.2.2.2.1, HR.out.2.2.2.2, ?_⟩, by have := HR.out.2.2.1; show w.heap.size ≤ b2; omega, ?_⟩
  · show _ = Ending.returned (.agg #[.string p, .slice (some ⟨b2, 0, none⟩) ts.length c2])
    rw [HN.out]
  · refine ⟨HR.out.1.1, fun j hj i v hv => ?_⟩
    have h := HR.out.1.2 j hj i v hv
    show ((w2.setCell _ _).setCell _ _).cell? _ = _
    have hne : b2 ≠ w.heap.size + 1 := by have := HR.out.2.2.1; omega
    rw [cell_set_other _ hne, cell_set_other _ hne]
    exact h
  · exact (((HR.out.2.1).setCell (p := ⟨w.heap.size + 1, 0, none⟩) (Nat.le_succ _) _).setCell (p := ⟨w.heap.size + 1, 1, none⟩) (Nat.le_succ _) _).drew
end Go.Proofs.Ytpnjmldbohecdaa
