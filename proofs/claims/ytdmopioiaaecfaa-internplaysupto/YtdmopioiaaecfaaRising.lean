/- Rising: each number once, by rising texts; what turns in memory. -/
import Derived.Test.YtdmopioiaaecfaaIter
import Derived.Test.YtdmopioiaaecfaaSort
import Derived.Maps.AppendAt
namespace Go.Proofs.Ytdmopioiaaecfaa
open Go.RowKit Go.Maps Go.Shelf
attribute [local go_sem] Oper.semAt_some

theorem run_make31 (n : Nat) (hn : 8 * n ≤ 281474976710656) (W : World) :
    (Instr.makeSlice 31 (.int .i64 0) (.int .i64 n)).run Try.prog W = .ok (.slice (some ⟨W.heap.size, 0, none⟩) 0 n) (W.alloc (.cells (madeCells #[.int .i64 0] n) 3)) := by
  obtain ⟨i, hi, hz0, hz1, hz2⟩ := info_parts info3
  have h := run_make (P := Try.prog) W 31 3 i _ Try.underlying31 hi hz0 .i64 .i64 0 n (by omega) (by omega) (by rw [hz2]; omega) (by omega)
  rw [hz1] at h
  simpa [Value.cells] using h

theorem row_new {w : World} (n : Nat) (hn : n ≤ maxLen) (o : Obj) : ((w.alloc o).alloc (.cells (madeCells #[.int .i64 0] n) 3)).ownsRow w.heap.size 3 1 (.slice (some ⟨w.heap.size + 1, 0, none⟩) 0 n) 0 [] := by
  have := World.ownsRow_made (base := w.heap.size) (e := 3) (size := 1) (w.alloc o) (madeCells #[.int .i64 0] n) n (by simp) hn (by simp [size_madeCells])
  rwa [World.size_alloc] at this

theorem ints_of_owns {W : World} {base n : Nat} {v : Value} {zs : List Int} (h : W.ownsRow base 3 1 v n (zs.map (Value.int .i64))) (hv : v ≠ .slice none 0 0) :
    ∃ b c, v = .slice (some ⟨b, 0, none⟩) n c ∧ base ≤ b ∧ IntsAt W b c zs := by
  have hl := h.1
  rcases h.2 with ⟨hx, _⟩ | ⟨b, c, cur, rfl, hb, hh, h1, h2, h3, h4⟩
  · exact absurd hx hv
  · refine ⟨b, c, rfl, hb, cur, hh, by simpa using h3, by simp at hl; omega, fun j hj => ?_⟩
    simp at hl
    have e : (cur.toList.take (n * 1))[j]? = (zs.map (Value.int .i64))[j]? := by rw [h4]
    rw [List.getElem?_take_of_lt (by omega)] at e
    simpa [hj] using e

theorem Turn.putObj (W : World) (D : Nat) (o' : Obj) : Turn (fun k => k = D) W (W.putObj D o') :=
  (Turn.of_grown (grownBy_putObj' W D o')).mono (fun i _ e => by simpa using e)

theorem told_fst (ts : List ByteArray) (k : Nat) : (told ts k).map (fun x => Value.int .i64 (x.1 : Int)) = ((List.range k).map Int.ofNat).map (Value.int .i64) := by
  simp [told]

/-- What Rising has gathered behind some rounds. -/
def Gath (w : World) (p : Value) (pre : List (Nat × ByteArray)) (W : World) : Prop :=
  ((∃ v, Boxed W (w.heap.size + 1 + 1) 31 v ∧ W.ownsRow w.heap.size 3 1 v pre.length (pre.map fun x => Value.int .i64 (x.1 : Int)) ∧ v ≠ .slice none 0 0) ∧ Boxed W w.heap.size 23 p) ∧ Below w.heap.size w W

set_option maxRecDepth 100000 in
set_option maxHeartbeats 2000000 in
theorem rising_yes {w : World} {bt bm g cap : Nat} {ts : List ByteArray} (h : Tab w bt bm g cap ts) (hlen : ts.length * 16 ≤ 140737488355328) :
    CallsIn Fence.wide 5 Try.prog 28 #[.pointer (some ⟨bt, 0, none⟩)] w fun e w' =>
      ∃ b c zs, e = .returned (.slice (some ⟨b, 0, none⟩) ts.length c) ∧ w.heap.size ≤ b ∧ Rises ts zs ∧ IntsAt w' b c (zs.map Int.ofNat) ∧ Below w.heap.size w w' := by
  obtain ⟨i0, hi, hz0, hz1, hz2⟩ := info_parts info3
  have hT1 : Tab (w.alloc (.cells #[.pointer (some ⟨bt, 0, none⟩)] 23)) bt bm g cap ts := h.kept (Turn.alloc (fun _ => False) _ _) (fun _ _ e => e)
  have hm := made_yes _ bt bm hT1.c1
  have hl := len_yes hT1
  have hms := run_make31 ts.length (by omega)
  have H : Hid (Tab w bt bm g cap ts) := h
  clear h hT1
  refine callsIn_of_wp_marks Try.func28 rfl trivial ?_ rfl
  simp only [Try.ntmps28, List.size_toArray, List.length_cons, List.length_nil, Nat.reduceAdd, Nat.reduceSub, Array.replicate_succ, Array.replicate_zero, List.push_toArray, List.append_toArray, List.nil_append, List.cons_append]
  gi_wp2_with (first | (refine ⟨trivial, ?_⟩; gi_at_call 34; refine CallsIn.mono (callsIn_wide.2 hm) ?_; rintro e w' ⟨rfl, rfl⟩) | (refine ⟨trivial, ?_⟩; gi_at_call 13; refine CallsIn.mono (callsIn_wide.2 hl) ?_; rintro e w' ⟨rfl, rfl⟩) | (refine ⟨trivial, ?_⟩; gi_at_call 21; refine CallsIn.mono (callsIn_wide.2 (all_any _ _)) ?_; rintro e w' ⟨rfl, rfl⟩))
  clear hm hl hms
  have hr0 := row_new (w := w) ts.length (by unfold maxLen; omega) (.cells #[.pointer (some ⟨bt, 0, none⟩)] 23)
  have b1 := (((Boxed.new w 23 (.pointer (some ⟨bt, 0, none⟩))).alloc (.cells (madeCells #[.int .i64 0] ts.length) 3)).alloc (.cells #[.slice (some ⟨w.heap.size + 1, 0, none⟩) 0 ts.length] 31)).alloc (.cells #[.pointer (some ⟨bt, 0, none⟩)] 23)
  have b2 := (Boxed.new ((w.alloc (.cells #[.pointer (some ⟨bt, 0, none⟩)] 23)).alloc (.cells (madeCells #[.int .i64 0] ts.length) 3)) 31 (.slice (some ⟨w.heap.size + 1, 0, none⟩) 0 ts.length)).alloc (.cells #[.pointer (some ⟨bt, 0, none⟩)] 23)
  rw [World.size_alloc, World.size_alloc] at b2
  have b3 := Boxed.new (((w.alloc (.cells #[.pointer (some ⟨bt, 0, none⟩)] 23)).alloc (.cells (madeCells #[.int .i64 0] ts.length) 3)).alloc (.cells #[.slice (some ⟨w.heap.size + 1, 0, none⟩) 0 ts.length] 31)) 23 (.pointer (some ⟨bt, 0, none⟩))
  rw [World.size_alloc, World.size_alloc, World.size_alloc] at b3
  have hr1 := (hr0.alloc (.cells #[.slice (some ⟨w.heap.size + 1, 0, none⟩) 0 ts.length] 31)).alloc (.cells #[.pointer (some ⟨bt, 0, none⟩)] 23)
  have hB0 : Below w.heap.size w ((((w.alloc (.cells #[.pointer (some ⟨bt, 0, none⟩)] 23)).alloc (.cells (madeCells #[.int .i64 0] ts.length) 3)).alloc (.cells #[.slice (some ⟨w.heap.size + 1, 0, none⟩) 0 ts.length] 31)).alloc (.cells #[.pointer (some ⟨bt, 0, none⟩)] 23)) :=
    ((((Below.refl _ w).alloc (Nat.le_refl _) _).alloc (by simp) _).alloc (by simp; omega) _).alloc (by simp; omega) _
  have hsz : ((((w.alloc (.cells #[.pointer (some ⟨bt, 0, none⟩)] 23)).alloc (.cells (madeCells #[.int .i64 0] ts.length) 3)).alloc (.cells #[.slice (some ⟨w.heap.size + 1, 0, none⟩) 0 ts.length] 31)).alloc (.cells #[.pointer (some ⟨bt, 0, none⟩)] 23)).heap.size = w.heap.size + 4 := by simp
  generalize ((((w.alloc (.cells #[.pointer (some ⟨bt, 0, none⟩)] 23)).alloc (.cells (madeCells #[.int .i64 0] ts.length) 3)).alloc (.cells #[.slice (some ⟨w.heap.size + 1, 0, none⟩) 0 ts.length] 31)).alloc (.cells #[.pointer (some ⟨bt, 0, none⟩)] 23)) = W0 at b1 b2 b3 hr1 hB0 hsz ⊢
  clear hr0
  have hlt := H.out.lt
  have hT0 : Tab W0 bt bm g cap ts := H.out.kept (Turn.of_below hB0) (by rintro k (rfl | rfl | rfl) <;> omega)
  refine wpIn_rangeFunc_ownG (α := Nat × ByteArray) rfl (by decide) (gf := 45) (lb := #[.pointer (some ⟨w.heap.size + 1 + 1 + 1, 0, none⟩)]) rfl trivial (enters_of Try.func45 (by kernel_rfl) rfl)
    (all_stops (5 - 1) (by decide) (w.heap.size + 1 + 1 + 1) bt bm g cap ts W0 b3.cell hT0) krow_t (krow_b (by omega)) (Below.refl _ _) (fun _ => rfl)
    (Gath w (.pointer (some ⟨bt, 0, none⟩))) (fun _ _ _ => False)
    (OwnFrom.and (OwnFrom.and (Own.from (holdsRow_own w.heap.size (w.heap.size + 1 + 1) 31 3 1 (fun pre => pre.length) (fun pre : List (Nat × ByteArray) => pre.map fun x => Value.int .i64 (x.1 : Int)) (fun _ v => v ≠ .slice none 0 0)) _) (Own.from (boxed_own w.heap.size 23 (fun _ => Value.pointer (some ⟨bt, 0, none⟩))) _)) (ownFrom_below (Nat.le_refl _) (by omega)))
    (fun _ _ _ _ _ hs _ _ => hs)
    ⟨⟨⟨_, b2, hr1, by simp⟩, b1⟩, hB0⟩
    (fun x => { tmps := #[.pointer (some ⟨bt, 0, none⟩), .pointer (some ⟨w.heap.size, 0, none⟩), .slice none 0 0, .pointer (some ⟨w.heap.size + 1 + 1, 0, none⟩), .int .i64 (x.1 : Int), .pointer (some ⟨bt, 0, none⟩), .bool true, .bool false,
        .pointer (some ⟨bt, 0, none⟩), .int .i64 ts.length, .slice (some ⟨w.heap.size + 1, 0, none⟩) 0 ts.length, .pointer (some ⟨bt, 0, none⟩), .func (.func 45) #[] #[.pointer (some ⟨w.heap.size + 1 + 1 + 1, 0, none⟩)], .int .i64 (x.1 : Int), .string x.2, undef, undef, undef, undef, undef, undef, undef, undef], defers := [] }) ?assign ?body ?done ?stop
  case assign =>
    intro l x W K hK
    dsimp only [encs]
    gi_wp2
    exact hK
  case body =>
    rintro l pre x W ⟨⟨⟨v, hv, hrow, hnn⟩, hb1⟩, hB⟩ hlt
    have hc := hv.cell
    have hBs := hB.size
    have HX : Hid (Boxed W w.heap.size 23 (.pointer (some ⟨bt, 0, none⟩)) ∧ v ≠ .slice none 0 0) := ⟨hb1, hnn⟩
    have HB : Hid (Below w.heap.size w W) := hB
    clear b1 b2 b3 hr1 hB0 hb1 hnn hB
    gi_wp2_with (gi_at_builtin; refine wpListIn_append_own _ rfl _ _ 31 rfl w.heap.size 3 i0 (.int .i64 0) 1 8 Try.underlying31 hi hz0 hz1 hz2 rfl (by decide) _ _ _ rfl (hrow.alloc _) ⟨W.heap.size, 0, none⟩ 1 1 [.int .i64 (x.1 : Int)] rfl rfl (cell_one_new _ _ _) (by simp [Value.oneCell']) (by unfold maxLen; omega) (by omega) (by simp; omega) ?_; intro v' w1 hown' hgrow hnil; obtain ⟨g', cap', rfl⟩ := ownsRow_succ hown'; obtain ⟨hv1, hv2, hr2, hk2, hb2⟩ := hv.appended (by decide) hrow hBs (by omega) hown' hgrow; have hc1 := hv1.cell; have hf1 := hv1.frozen; have hbx := ((HX.out.1.alloc _).kept hgrow (HX.out.1.not_row (by decide) hrow)).other (B' := w.heap.size + 1 + 1) (by omega) (.slice (some ⟨g', 0, none⟩) (pre.length + 1) cap'))
    exact ⟨hk2.from _, krow_below hb2 (by omega), ⟨⟨⟨_, hv2, by simpa using hr2, by simp⟩, hbx⟩, HB.out.trans hb2⟩⟩
  case done =>
    rintro D ys W hD rfl ⟨⟨⟨v, hv, hrow, hnn⟩, hb1⟩, hB⟩ hK
    rw [told_fst] at hrow
    obtain ⟨b, c, rfl, hbb, hI⟩ := ints_of_owns hrow hnn
    rw [told_length] at hv
    have hT : Tab W bt bm g cap ts := H.out.kept (Turn.of_below hB) (by rintro k (rfl | rfl | rfl) <;> omega)
    have hbox : ∀ B t v, Boxed W B t v → t ≠ 3 → B ≠ b := by
      rintro B t v hbx ht rfl
      obtain ⟨cur, h1, _⟩ := hI
      rw [show W.heap[B]? = _ from hbx] at h1
      simp at h1
      exact ht h1.2
    have hso := sort_all hT w.heap.size b c c hb1.cell hI (hbox _ _ _ hb1 (by decide)) (by omega)
    have hc := hv.cell
    have HK : Hid (Below w.heap.size w W ∧ W.heap[D]? = some (.deferred (some [])) ∧ w.heap.size + 1 + 1 ≠ b ∧ D ≠ b ∧ IntsAt W b c ((List.range ts.length).map Int.ofNat)) :=
      ⟨hB, hK, hbox _ _ _ hv (by decide), fun e => by obtain ⟨cur, h1, _⟩ := hI; rw [← e, hK] at h1; simp at h1, hI⟩
    clear b1 b2 b3 hr1 hB0 hB hK hrow hnn hI hT hT0 hbox hb1
    gi_wp2_with (refine ⟨trivial, ?_⟩; gi_at_call 48; refine CallsIn.mono (callsIn_wide.2 hso) ?_; rintro e W2 ⟨rfl, zs, hR, hI2, ht⟩; have hc2 := ht.cell hc HK.out.2.2.1; have HX : Hid (Rises ts zs ∧ IntsAt W2 b c (zs.map Int.ofNat) ∧ Turn (fun k => k = b) W W2) := ⟨hR, hI2, ht⟩; clear hR hI2 ht)
    obtain ⟨hB, hK, _, hDb, _⟩ := HK.out
    obtain ⟨hR, hI2, ht⟩ := HX.out
    have hK2 : W2.heap[D]? = some (.deferred (some [])) := (ht.block D (Array.getElem?_eq_some_iff.1 hK).1 hDb).trans hK
    refine ⟨by simp, .inl ⟨_, _, rfl, run_takeDeferred hK2, ?_⟩⟩
    refine ⟨_, results_tmp rfl _ _ _, b, c, zs, rfl, hbb, hR, hI2.kept (Turn.putObj W2 D _) (fun e => hDb e.symm), ?_⟩
    exact hB.trans ((((ht.mono (S' := fun k => k = b ∨ k = D) (fun _ _ e => .inl e)).trans (Turn.putObj W2 D (.deferred none)) (fun _ _ e => .inr e)).below hB.size (by rintro k (e | e) <;> omega)))
  case stop =>
    rintro D c pre W _ _ h _
    exact h.elim
end Go.Proofs.Ytdmopioiaaecfaa
