/- Literals copied: CopyBody. -/
import Derived.Test.YtpnjmldbohecdaaCC
import Derived.Deep.RegionHeld3
import Derived.Deep.AppendLies
namespace Go.Proofs.Ytpnjmldbohecdaa
open Go.RowKit Go.Maps

def encLi (x : Li) : List Value := [.int .i64 x.kind, .string x.atom.pred, x.atom.sl, .bool x.left.var, .string x.left.text, .bool x.right.var, .string x.right.text]
theorem encLiOk : EncOk 7 encLi := ⟨fun _ => rfl, fun _ u hu => by simp [encLi, At.sl] at hu; rcases hu with rfl | rfl | rfl | rfl | rfl | rfl | rfl <;> rfl, by decide⟩
theorem infoLi : (Try.prog.info? 53).map (fun i => (i.zero, i.size, i.bytes)) = some (some (.agg #[.int .i64 0, .string ⟨#[]⟩, .slice none 0 0, .bool false, .string ⟨#[]⟩, .bool false, .string ⟨#[]⟩]), 7, 96) := by kernel_rfl
theorem LisS.recs {w : World} {a : Option Addr} {b off : Nat} {ls : List Li} (h : LisS w a b off ls) : RecS 7 encLi w a b off ls := by
  refine ⟨h.1, fun j hj i v hv => ?_⟩
  obtain ⟨h0, h1, h2, h3, h4, h5, h6, _⟩ := h.2 j hj
  match i, hv with
  | 0, hv => simp only [encLi, List.getElem?_cons_zero, Option.some.injEq] at hv; rw [← hv]; exact h0
  | 1, hv => simp only [encLi, List.getElem?_cons_succ, List.getElem?_cons_zero, Option.some.injEq] at hv; rw [← hv]; exact h1
  | 2, hv => simp only [encLi, List.getElem?_cons_succ, List.getElem?_cons_zero, Option.some.injEq] at hv; rw [← hv]; exact h2
  | 3, hv => simp only [encLi, List.getElem?_cons_succ, List.getElem?_cons_zero, Option.some.injEq] at hv; rw [← hv]; exact h3
  | 4, hv => simp only [encLi, List.getElem?_cons_succ, List.getElem?_cons_zero, Option.some.injEq] at hv; rw [← hv]; exact h4
  | 5, hv => simp only [encLi, List.getElem?_cons_succ, List.getElem?_cons_zero, Option.some.injEq] at hv; rw [← hv]; exact h5
  | 6, hv => simp only [encLi, List.getElem?_cons_succ, List.getElem?_cons_zero, Option.some.injEq] at hv; rw [← hv]; exact h6
theorem RecS.lis {w : World} {a : Option Addr} {b off : Nat} {ls : List Li} (h : RecS 7 encLi w a b off ls) (hi : ∀ x ∈ ls, x.atom.In w) : LisS w a b off ls :=
  ⟨h.1, fun j hj => ⟨h.2 j hj 0 _ rfl, h.2 j hj 1 _ rfl, h.2 j hj 2 _ rfl, h.2 j hj 3 _ rfl, h.2 j hj 4 _ rfl, h.2 j hj 5 _ rfl, h.2 j hj 6 _ rfl, hi _ (List.getElem_mem hj)⟩⟩
/-- The mark behind a list of literals. -/
def markL : Li := ⟨77, ⟨⟨#[]⟩, none, 0, 0, 0, []⟩, ⟨false, ⟨#[]⟩⟩, ⟨false, ⟨#[]⟩⟩⟩
/-- Of the same content. -/
def Li.like (y x : Li) : Prop := y.kind = x.kind ∧ y.atom.like x.atom ∧ y.left = x.left ∧ y.right = x.right
/-- One list is the other's copy, one by one. -/
def likes (cs ls : List Li) : Prop := cs.length = ls.length ∧ ∀ j (h1 : j < cs.length) (h2 : j < ls.length), cs[j].like ls[j]
theorem likes_nil : likes [] [] := ⟨rfl, fun _ h => absurd h (Nat.not_lt_zero _)⟩
theorem likes_snoc {cs ls : List Li} {y x : Li} (h : likes cs ls) (hy : y.like x) : likes (cs ++ [y]) (ls ++ [x]) := by
  refine ⟨by simp [h.1], fun j h1 h2 => ?_⟩
  by_cases hj : j < cs.length
  · rw [List.getElem_append_left hj, List.getElem_append_left (by rw [← h.1]; exact hj)]
    exact h.2 j hj _
  · have e1 : j = cs.length := by simp at h1; omega
    have e2 : j = ls.length := by rw [← h.1]; exact e1
    rw [List.getElem_append_right (by omega), List.getElem_append_right (by omega)]
    simpa using hy

/-- What lies apart from a growing list stays. -/
theorem cell_grown {w w' : World} {ob : Option Nat} (hg : w.grownBy w' ob) {p : Addr} {v : Value} (hv : w.cell? p = some v) (hn : ob ≠ some p.block) : w'.cell? p = some v := by
  rw [← hv]
  unfold World.cell?
  rw [hg.block _ (World.block_lt_of_cell? w _ hv) (fun e => hn e.symm)]
theorem RecS.grown {α : Type} {n : Nat} {enc : α → List Value} {w w' : World} {a : Option Addr} {b off : Nat} {xs : List α} {ob : Option Nat} (h : RecS n enc w a b off xs) (hg : w.grownBy w' ob) (hn : ob ≠ some b) : RecS n enc w' a b off xs :=
  ⟨h.1, fun j hj i v hv => cell_grown hg (h.2 j hj i v hv) hn⟩
theorem At.Kept.grown {x : At} {w w' : World} {ob : Option Nat} (h : x.Kept w) (hg : w.grownBy w' ob) (hn : ob ≠ some x.b) : x.Kept w' := ⟨h.1, h.2.1, h.2.2.1, h.2.2.2.grown hg hn⟩
theorem At.Kept.lt {x : At} {w : World} (h : x.Kept w) : x.b < w.heap.size := by
  have h1 := h.2.2.2.2 (x.ts.length) (by simp) 0 (.bool false) (by simp [encTm, markT])
  exact World.block_lt_of_cell? w _ h1

theorem seven_keep {W W' : World} {b o : Nat} {c0 c1 c2 c3 c4 c5 c6 : Value} (h : W.cell? ⟨b, o, none⟩ = some c0 ∧ W.cell? ⟨b, o + 1, none⟩ = some c1 ∧ W.cell? ⟨b, o + 1 + 1, none⟩ = some c2 ∧ W.cell? ⟨b, o + 3, none⟩ = some c3 ∧ W.cell? ⟨b, o + 3 + 1, none⟩ = some c4 ∧ W.cell? ⟨b, o + 5, none⟩ = some c5 ∧ W.cell? ⟨b, o + 5 + 1, none⟩ = some c6) (hs : Stay W W') :
    W'.cell? ⟨b, o, none⟩ = some c0 ∧ W'.cell? ⟨b, o + 1, none⟩ = some c1 ∧ W'.cell? ⟨b, o + 1 + 1, none⟩ = some c2 ∧ W'.cell? ⟨b, o + 3, none⟩ = some c3 ∧ W'.cell? ⟨b, o + 3 + 1, none⟩ = some c4 ∧ W'.cell? ⟨b, o + 5, none⟩ = some c5 ∧ W'.cell? ⟨b, o + 5 + 1, none⟩ = some c6 := by
  obtain ⟨h0, h1, h2, h3, h4, h5, h6⟩ := h
  exact ⟨hs.cell h0, hs.cell h1, hs.cell h2, hs.cell h3, hs.cell h4, hs.cell h5, hs.cell h6⟩
theorem seven_grown {W W' : World} {ob : Option Nat} {b o : Nat} {c0 c1 c2 c3 c4 c5 c6 : Value} (h : W.cell? ⟨b, o, none⟩ = some c0 ∧ W.cell? ⟨b, o + 1, none⟩ = some c1 ∧ W.cell? ⟨b, o + 1 + 1, none⟩ = some c2 ∧ W.cell? ⟨b, o + 3, none⟩ = some c3 ∧ W.cell? ⟨b, o + 3 + 1, none⟩ = some c4 ∧ W.cell? ⟨b, o + 5, none⟩ = some c5 ∧ W.cell? ⟨b, o + 5 + 1, none⟩ = some c6) (hg : W.grownBy W' ob) (hn : ob ≠ some b) :
    W'.cell? ⟨b, o, none⟩ = some c0 ∧ W'.cell? ⟨b, o + 1, none⟩ = some c1 ∧ W'.cell? ⟨b, o + 1 + 1, none⟩ = some c2 ∧ W'.cell? ⟨b, o + 3, none⟩ = some c3 ∧ W'.cell? ⟨b, o + 3 + 1, none⟩ = some c4 ∧ W'.cell? ⟨b, o + 5, none⟩ = some c5 ∧ W'.cell? ⟨b, o + 5 + 1, none⟩ = some c6 := by
  obtain ⟨h0, h1, h2, h3, h4, h5, h6⟩ := h
  exact ⟨cell_grown hg h0 hn, cell_grown hg h1 hn, cell_grown hg h2 hn, cell_grown hg h3 hn, cell_grown hg h4 hn, cell_grown hg h5 hn, cell_grown hg h6 hn⟩

/-- What CopyBody answers. -/
def CopyB (w : World) (ls : List Li) (n : Nat) (e : Ending) (w' : World) : Prop := ∃ (g c : Nat) (cs : List Li), e = .returned (.slice (some ⟨g, 0, none⟩) n c) ∧ likes cs ls ∧ RecS 7 encLi w' (some ⟨g, 0, none⟩) g 0 (cs ++ [markL, markL]) ∧ n + 2 ≤ c ∧ c ≤ maxLen ∧ (∀ y ∈ cs, y.atom.Kept w' ∧ w.heap.size ≤ y.atom.b) ∧ w.heap.size ≤ g ∧ Stay w w'
/-- Between two rounds: the first ones are copied. -/
def Cb (w : World) (ls : List Li) (v i : Value) (W : World) : Prop :=
  ∃ (k : Nat) (cs : List Li), i = .int .i64 (k : Int) ∧ k ≤ ls.length ∧ likes cs (ls.take k) ∧ OwnR 53 7 encLi w.heap.size W v cs ∧ (∀ y ∈ cs, y.atom.Kept W ∧ v.ownBlock ≠ some y.atom.b ∧ w.heap.size ≤ y.atom.b) ∧ Stay w W

theorem Cb.step {w wr W1 w2 : World} {ls cs : List Li} {k gg cap2 yb yo yc : Nat} {kz : Int} {v : Value} {p : ByteArray} {xs : List Tm} {t1 t2 : Tm} {o : Obj} (hkl : k < ls.length) (hx : (⟨kz, ⟨p, some ⟨yb, yo, none⟩, yb, yo, yc, xs⟩, t1, t2⟩ : Li).like ls[k])
    (hlk : likes cs (ls.take k)) (hown : OwnR 53 7 encLi w.heap.size wr v cs) (hall : ∀ y ∈ cs, y.atom.Kept wr ∧ v.ownBlock ≠ some y.atom.b ∧ w.heap.size ≤ y.atom.b) (hst : Stay w wr)
    (hke : At.Kept ⟨p, some ⟨yb, yo, none⟩, yb, yo, yc, xs⟩ W1) (hyb : wr.heap.size ≤ yb) (hs1 : Stay wr W1)
    (hown2 : w2.ownsRow w.heap.size 53 7 (.slice (some ⟨gg, 0, none⟩) (cs.length + 1) cap2) (cs.length + 1) (cellsR encLi cs ++ encLi ⟨kz, ⟨p, some ⟨yb, yo, none⟩, yb, yo, yc, xs⟩, t1, t2⟩)) (hgrow : (W1.alloc o).grownBy w2 v.ownBlock) (hat : v.ownBlock = some gg ∨ gg = W1.heap.size + 1) :
    Cb w ls (.slice (some ⟨gg, 0, none⟩) (cs.length + 1) cap2) (.int .i64 ((k + 1 : Nat) : Int)) w2 := by
  have hsA : Stay wr (W1.alloc o) := hs1.alloc o
  refine ⟨k + 1, cs ++ [⟨kz, ⟨p, some ⟨yb, yo, none⟩, yb, yo, yc, xs⟩, t1, t2⟩], rfl, hkl, ?_, ?_, fun z hz => ?_, ?_⟩
  · rw [List.take_succ_eq_append_getElem hkl]
    exact likes_snoc hlk hx
  · unfold OwnR
    rw [List.length_append, cellsR_app, show cellsR encLi [(⟨kz, ⟨p, some ⟨yb, yo, none⟩, yb, yo, yc, xs⟩, t1, t2⟩ : Li)] = encLi ⟨kz, ⟨p, some ⟨yb, yo, none⟩, yb, yo, yc, xs⟩, t1, t2⟩ from by simp [cellsR]]
    exact hown2
  · have hlt1 := hs1.size
    rw [List.mem_append, List.mem_singleton] at hz
    rcases hz with hz | rfl
    · obtain ⟨h1, h2, h3⟩ := hall z hz
      have hzl := h1.lt
      refine ⟨(h1.stay hsA).grown hgrow h2, fun e => ?_, h3⟩
      simp only [Value.ownBlock, Option.some.injEq] at e
      rcases hat with h | h
      · exact h2 (by rw [h, e])
      · omega
    · have hyl := hke.lt
      dsimp only at hyl
      have hne : v.ownBlock ≠ some yb := fun e => by have := (hown.lt yb e).2; omega
      refine ⟨(hke.stay (Stay.new W1 o)).grown hgrow hne, fun e => ?_, Nat.le_trans hst.size hyb⟩
      simp only [Value.ownBlock, Option.some.injEq] at e
      rcases hat with h | h
      · exact hne (by rw [h, e])
      · omega
  · exact ownR_grow (hst.trans hsA) (Nat.le_refl _) (hown.stay hsA) hgrow

set_option maxRecDepth 100000 in
set_option maxHeartbeats 4000000 in
theorem copyBody_any (w : World) (a : Option Addr) (bk off cap : Nat) (ls : List Li) (hM : LisS w a bk off ls) (hf : ∀ x ∈ ls, x.atom.fair ∧ (x.atom.ts.length + 2) * 24 ≤ 140737488355328) (hb : (ls.length + 2) * 96 ≤ 140737488355328) :
    Calls Try.prog 20 #[.slice a ls.length cap] w (CopyB w ls ls.length) := by
  have H0 : Hid (Cb w ls (.slice none 0 0) (.int .i64 0) w) := ⟨0, [], rfl, Nat.zero_le _, by simpa using likes_nil, OwnR.nil, fun _ h => absurd h List.not_mem_nil, Stay.refl _⟩
  have HM : Hid (LisS w a bk off ls ∧ (∀ x ∈ ls, x.atom.fair ∧ (x.atom.ts.length + 2) * 24 ≤ 140737488355328)) := ⟨hM, hf⟩
  have HA : Hid (0 < ls.length → a = some ⟨bk, off, none⟩) := hM.1
  clear hM hf
  obtain ⟨i0, hi0, hz0, hz1, hz2⟩ := info_parts infoLi
  generalize hn : ls.length = n at *
  have HN : Hid (ls.length = n) := hn
  clear hn
  go_enter Try.func20, Try.ntmps20
  go_wp2_with fail
  go_loopw [3, 4] (fun v i wr => Cb w ls v i wr) (fun _ i _ => n - (intOf i).toNat)
  case atStart => exact H0.out
  case round =>
    obtain ⟨k, cs, rfl, hk, hlk, hown, hall, hst⟩ := hrel
    clear H0
    rw [HN.out] at hk
    by_cases hlt : k < n
    · have hkl : k < ls.length := by rw [HN.out]; exact hlt
      have hki : (k : Int) < (n : Int) := by omega
      have hki0 : (0 : Int) ≤ (k : Int) := by omega
      obtain rfl := HA.out (by omega)
      have hbk : bk < w.heap.size := World.block_lt_of_cell? w _ (HM.out.1.2 k hkl).1
      have hne : u3.ownBlock ≠ some bk := fun e => by have := (hown.lt bk e).1; omega
      obtain ⟨c0, c1, c2, c3, c4, c5, c6, _⟩ := (HM.out.1.stay hst).2 k hkl
      have hca := fun (V : World) (hV : Stay w V) => copyAtom_any ls[k].atom V ((HM.out.1.stay hV).2 k hkl).2.2.2.2.2.2.2 (HM.out.2 _ (List.getElem_mem hkl)).1 (HM.out.2 _ (List.getElem_mem hkl)).2
      obtain ⟨x, hx⟩ : ∃ x, ls[k] = x := ⟨_, rfl⟩
      rw [hx] at c0 c1 c2 c3 c4 c5 c6 hca
      have HX : Hid (ls[k] = x) := hx
      obtain ⟨kd, ⟨p, xa, xb, xo, xc, xs⟩, ⟨va1, s1⟩, ⟨va2, s2⟩⟩ := x
      have hcb : ∀ V : World, Stay w V → Calls Try.prog 19 #[.agg #[.string p, .slice xa xs.length xc]] V fun e w' => ∃ yb yo yc, e = .returned (.agg #[.string p, .slice (some ⟨yb, yo, none⟩) xs.length yc]) ∧ At.Kept ⟨p, some ⟨yb, yo, none⟩, yb, yo, yc, xs⟩ w' ∧ V.heap.size ≤ yb ∧ Stay V w' := by
        intro V hV
        refine (hca V hV).mono ?_
        rintro e w' ⟨⟨yp, ya, yb, yo, yc, ys⟩, rfl, hl, hke, hyb, hsv⟩
        obtain rfl : yp = p := hl.1
        obtain rfl : ys = xs := hl.2
        obtain rfl : ya = some ⟨yb, yo, none⟩ := hke.1
        exact ⟨yb, yo, yc, rfl, hke, hyb, hsv⟩
      unfold At.sl at c2
      dsimp only at c0 c1 c2 c3 c4 c5 c6
      have hcl : cs.length = k := by rw [hlk.1, List.length_take]; omega
      have hcm : cs.length + 1 ≤ maxLen := by unfold maxLen; omega
      have hcb2 : (cs.length + 1) * 96 ≤ 140737488355328 := by omega
      have HCL : Hid (cs.length = k) := hcl
      clear hcl
      generalize hm : xs.length = m at *
      have HMm : Hid (xs.length = m) := hm
      have HS : Hid (likes cs (ls.take k) ∧ OwnR 53 7 encLi w.heap.size wr u3 cs ∧ (∀ y ∈ cs, y.atom.Kept wr ∧ u3.ownBlock ≠ some y.atom.b ∧ w.heap.size ≤ y.atom.b) ∧ Stay w wr) := ⟨hlk, hown, hall, hst⟩
      clear hca hx hm hlk hown hall hst
      go_upto_region 5 with fail
      have hS7 : wr.drew.cell? ⟨bk, off + k * 7, none⟩ = some (.int .i64 kd) ∧ wr.drew.cell? ⟨bk, off + k * 7 + 1, none⟩ = some (.string p) ∧ wr.drew.cell? ⟨bk, off + k * 7 + 1 + 1, none⟩ = some (.slice xa m xc) ∧ wr.drew.cell? ⟨bk, off + k * 7 + 3, none⟩ = some (.bool va1) ∧ wr.drew.cell? ⟨bk, off + k * 7 + 3 + 1, none⟩ = some (.string s1) ∧ wr.drew.cell? ⟨bk, off + k * 7 + 5, none⟩ = some (.bool va2) ∧ wr.drew.cell? ⟨bk, off + k * 7 + 5 + 1, none⟩ = some (.string s2) := ⟨c0, c1, c2, c3, c4, c5, c6⟩
      go_region_held3 (fun W => W.cell? ⟨bk, off + k * 7, none⟩ = some (.int .i64 kd) ∧ W.cell? ⟨bk, off + k * 7 + 1, none⟩ = some (.string p) ∧ W.cell? ⟨bk, off + k * 7 + 1 + 1, none⟩ = some (.slice xa m xc) ∧ W.cell? ⟨bk, off + k * 7 + 3, none⟩ = some (.bool va1) ∧ W.cell? ⟨bk, off + k * 7 + 3 + 1, none⟩ = some (.string s1) ∧ W.cell? ⟨bk, off + k * 7 + 5, none⟩ = some (.bool va2) ∧ W.cell? ⟨bk, off + k * 7 + 5 + 1, none⟩ = some (.string s2))
        (first | assumption | (exact seven_keep (by assumption) (by assumption)) | (exact seven_keep (by assumption) (Stay.new _ _)) | (exact seven_grown (by assumption) (by assumption) (by assumption)) | (exact seven_grown (seven_keep (by assumption) (Stay.new _ _)) (by assumption) (by assumption)))
        (first
          | (go_at_call 19; refine (hcb _ (Below.drew HS.out.2.2.2)).mono ?_; rintro e W1 ⟨yb, yo, yc, rfl, hke, hyb, hs1⟩; have hsz : w.heap.size ≤ W1.heap.size := Nat.le_trans HS.out.2.2.2.size hs1.size)
          | (refine step_append_lies _ (by rfl) _ _ _ (by rfl) w.heap.size 53 i0 _ 7 96 Try.underlying25 hi0 hz0 hz1 hz2 rfl (by decide) u3 cs.length (cellsR encLi cs) (by rfl) ((OwnR.stay (w := wr.drew) HS.out.2.1 hs1).alloc _) ⟨W1.heap.size, 0, none⟩ 1 1 [.int .i64 kd, .string p, .slice (some ⟨yb, yo, none⟩) m yc, .bool va1, .string s1, .bool va2, .string s2] (by rfl) (by rfl) (World.news_of_block (cs := #[.int .i64 kd, .string p, .slice (some ⟨yb, yo, none⟩) m yc, .bool va1, .string s1, .bool va2, .string s2]) (t := 53) (fr := (0, 0)) (heap_alloc_new W1 _)) (by simp [Value.oneCell']) (by decide) hcm hcb2 (by rw [World.size_alloc]; omega) (W1.heap.size + 1) (by simp) ?_; intro gg cap2 w2 hown2 hgrow hat hlt2))
      have HNX : Hid (Cb w ls (.slice (some ⟨gg, 0, none⟩) (cs.length + 1) cap2) (.int .i64 ((k + 1 : Nat) : Int)) w2) :=
        Cb.step (kz := kd) (t1 := ⟨va1, s1⟩) (t2 := ⟨va2, s2⟩) hkl (by rw [HX.out]; exact ⟨rfl, ⟨rfl, rfl⟩, rfl, rfl⟩) HS.out.1 HS.out.2.1 HS.out.2.2.1 HS.out.2.2.2 hke hyb ⟨hs1.os, hs1.tape, hs1.output, hs1.size, hs1.block⟩ (by rw [show encLi ⟨kd, ⟨p, some ⟨yb, yo, none⟩, yb, yo, yc, xs⟩, ⟨va1, s1⟩, ⟨va2, s2⟩⟩ = [.int .i64 kd, .string p, .slice (some ⟨yb, yo, none⟩) m yc, .bool va1, .string s1, .bool va2, .string s2] from by rw [← HMm.out]; rfl]; exact hown2) hgrow hat
      clear hown2 hgrow hat hke hyb hs1 hcb c0 c1 c2 c3 c4 c5 c6 hS7
      generalize cs.length + 1 = q at *
      go_wp2_with fail
      go_roundw
      case rel => simpa using HNX.out
      case measure => simp [intOf]; omega
    · obtain rfl : k = n := by omega
      have hcl : cs.length = k := by rw [hlk.1, List.length_take, HN.out]; omega
      obtain ⟨v2, w2, hr2, ho2, hg2, _, hat⟩ := append_recs (P := Try.prog) (ty := 25) encLiOk Try.underlying25 infoLi rfl (hown.alloc (.cells (cellsR encLi [markL, markL]).toArray 53)) (recs_lit encLiOk wr [markL, markL] 53) (c := 2) (fun h => nomatch h) (by simp [maxLen]; omega) (by simp; omega) (by rw [World.size_alloc]; exact Nat.le_succ_of_le hst.size)
      have hs2 : Stay w w2 := ownR_grow (hst.alloc _) (Nat.le_refl _) (hown.alloc _) hg2
      obtain ⟨a2, b2, c2, rfl, hR, _, hpos, hle, hmx⟩ := ho2.form encLiOk
      obtain rfl := hpos (by simp)
      rw [List.length_append] at hr2 hle
      simp only [List.length_cons, List.length_nil] at hr2 hle
      rw [hcl] at hr2 hle
      have HF : Hid (likes cs ls ∧ RecS 7 encLi w2 (some ⟨b2, 0, none⟩) b2 0 (cs ++ [markL, markL]) ∧ k + 2 ≤ c2 ∧ c2 ≤ maxLen ∧ (∀ y ∈ cs, y.atom.Kept w2 ∧ w.heap.size ≤ y.atom.b) ∧ w.heap.size ≤ b2 ∧ Stay w w2) := by
        refine ⟨?_, hR, hle, hmx, fun y hy => ?_, (ho2.lt b2 rfl).1, hs2⟩
        · rw [← HN.out, List.take_length] at hlk; exact hlk
        · obtain ⟨h1, h2, h3⟩ := hall y hy
          exact ⟨(h1.stay (Stay.new wr _)).grown hg2 h2, h3⟩
      have hk2 : k ≤ c2 := by omega
      have hk2i : (k : Int) ≤ (c2 : Int) := by omega
      have hge : ¬ (k : Int) < (k : Int) := by omega
      clear hR hg2 hat hs2 ho2 hpos hle hmx hown hall hst hlk hcl
      go_wp2_with (first
        | (at_builtin; refine wpList_append_run rfl (.tmp 36) (.tmp 39) 25 25 rfl _ _ rfl rfl hr2 ?_; clear hr2))
      go_ret
      exact ⟨b2, c2, cs, rfl, HF.out⟩
end Go.Proofs.Ytpnjmldbohecdaa
