/- PrintRule's walk. -/
import Derived.Test.YtmbjghhicbbgmaaDoorCN
import Derived.Test.YtmbjghhicbbgmaaDoorPS1
import Derived.Deep.Cut
namespace Go.Proofs.YtmbjghhicbbgmaaDoor
open Go.RowKit Go.Maps

abbrev BothAT := @Both At Tm 24 38 2 2 encAt encTm
/-- The atoms that are looked at when k literals are told. -/
def atomsOf (h : At) (cs : List Li) (k : Nat) : List At := h :: (cs.take k).map Li.atom
def termsOf (cs : List Li) (k : Nat) : List Tm := (cs.take k).flatMap (fun x => [x.left, x.right])
theorem atomsOf_next (h : At) (cs : List Li) (k : Nat) (hk : k < cs.length) : atomsOf h cs (k + 1) = atomsOf h cs k ++ [cs[k].atom] := by
  unfold atomsOf
  rw [List.take_succ_eq_append_getElem hk, List.map_append]
  rfl
theorem termsOf_next (cs : List Li) (k : Nat) (hk : k < cs.length) : termsOf cs (k + 1) = termsOf cs k ++ [cs[k].left, cs[k].right] := by
  unfold termsOf
  rw [List.take_succ_eq_append_getElem hk, List.flatMap_append]
  rfl
theorem atomsOf_len (h : At) (cs : List Li) (k : Nat) (hk : k ≤ cs.length) : (atomsOf h cs k).length = k + 1 := by
  simp [atomsOf]; omega
theorem termsOf_len (cs : List Li) : ∀ k, k ≤ cs.length → (termsOf cs k).length = k * 2
  | 0, _ => by simp [termsOf]
  | k + 1, hk => by
    rw [termsOf_next cs k (by omega), List.length_append, termsOf_len cs k (by omega)]
    simp only [List.length_cons, List.length_nil]
    omega
theorem sumT_like {x y : Ru} (h : y.like x) : sumT (atomsOf y.head y.body y.body.length) = sumT (atomsOf x.head x.body x.body.length) := by
  unfold atomsOf sumT
  rw [List.take_length, List.take_length, List.map_cons, List.map_cons, List.map_map, List.map_map, h.1.2, likes_map (f := (fun x : At => x.ts.length) ∘ Li.atom) (fun x y hxy => by simp only [Function.comp]; rw [hxy.2.1.2]) h.2]
/-- Between two rounds of the first loop. -/
def P1 (W4 : World) (yh : At) (cs : List Li) (v8 v9 i : Value) (W : World) : Prop :=
  ∃ k : Nat, i = .int .i64 (k : Int) ∧ k ≤ cs.length ∧ BothAT W4 v8 v9 (atomsOf yh cs k) (termsOf cs k) W
theorem P1.start (W4 : World) (yh : At) (cs : List Li) : P1 W4 yh cs (.slice (some ⟨W4.heap.size, 0, none⟩) 1 1) (.slice none 0 0) (.int .i64 0) (W4.alloc (.cells #[.string yh.pred, .slice yh.a yh.ts.length yh.cap] 24)) :=
  ⟨0, rfl, Nat.zero_le _, ⟨Stay.new W4 _, ⟨rfl, .inr ⟨W4.heap.size, 1, _, rfl, Nat.le_refl _, heap_new W4 _, Nat.le_refl _, by decide, rfl, rfl⟩⟩, OwnR.nil, fun _ _ h => by cases h⟩⟩

/-- A rule's three cells, boxed, behind what stays. -/
theorem rule_box {w W : World} {c0 c1 c2 : Value} (h : Stay (w.alloc (.cells #[c0, c1, c2] 27)) W) : W.cell? ⟨w.heap.size, 0, none⟩ = some c0 ∧ W.cell? ⟨w.heap.size, 1, none⟩ = some c1 ∧ W.cell? ⟨w.heap.size, 2, none⟩ = some c2 :=
  ⟨h.cell (by simp), h.cell (by simp), h.cell (by simp)⟩
theorem atomsOf_kept {yh : At} {a : Option Addr} {b o c : Nat} {cs : List Li} {W : World} (h : Ru.Kept ⟨yh, a, b, o, c, cs⟩ W) (k : Nat) : ∀ z ∈ atomsOf yh cs k, z.Kept W := by
  intro z hz
  unfold atomsOf at hz
  rw [List.mem_cons] at hz
  rcases hz with rfl | hz
  · exact h.1
  · rw [List.mem_map] at hz
    obtain ⟨x, hx, rfl⟩ := hz
    exact h.2.2.2.2.2 x (List.mem_of_mem_take hx)
theorem OwnR.cell {α : Type} {t : TypeId} {n base : Nat} {enc : α → List Value} (he : EncOk n enc) {W : World} {g m c : Nat} {xs : List α} (h : OwnR t n enc base W (.slice (some ⟨g, 0, none⟩) m c) xs) (j : Nat) (hj : j < xs.length) (i : Nat) (v : Value) (hv : (enc xs[j])[i]? = some v) : W.cell? ⟨g, j * n + i, none⟩ = some v := by
  obtain ⟨a, b, c', e, hR, _, hp, _, _⟩ := h.form he
  have hp := hp (Nat.lt_of_le_of_lt (Nat.zero_le _) hj)
  subst hp
  injection e with e1 _ _
  injection e1 with e1
  injection e1 with e1
  subst e1
  have := hR.2 j hj i v hv
  rwa [Nat.zero_add] at this
/-- Between two rounds of the second loop. -/
def P2 (W4 : World) (AZ : List At) (k : Nat) (v8 v9 i : Value) (W : World) : Prop :=
  ∃ (j : Nat) (tl : List Tm), i = .int .i64 (j : Int) ∧ j ≤ AZ.length ∧ BothAT W4 v8 v9 AZ tl W ∧ tl.length = k * 2 + sumT (AZ.take j)
theorem P2.stayed {W4 : World} {AZ : List At} {k : Nat} {v8 v9 i : Value} {W : World} (h : P2 W4 AZ k v8 v9 i W) : Stay W4 W := by
  obtain ⟨_, _, _, _, h, _⟩ := h
  exact h.stay
theorem five_keepP {W W' : World} {b d o : Nat} {c0 c1 c2 c3 c4 : Value} (h : W.cell? ⟨d, 2, none⟩ = some c0 ∧ W.cell? ⟨b, o + 3, none⟩ = some c1 ∧ W.cell? ⟨b, o + 3 + 1, none⟩ = some c2 ∧ W.cell? ⟨b, o + 5, none⟩ = some c3 ∧ W.cell? ⟨b, o + 5 + 1, none⟩ = some c4) (hs : Stay W W') :
    W'.cell? ⟨d, 2, none⟩ = some c0 ∧ W'.cell? ⟨b, o + 3, none⟩ = some c1 ∧ W'.cell? ⟨b, o + 3 + 1, none⟩ = some c2 ∧ W'.cell? ⟨b, o + 5, none⟩ = some c3 ∧ W'.cell? ⟨b, o + 5 + 1, none⟩ = some c4 := ⟨hs.cell h.1, hs.cell h.2.1, hs.cell h.2.2.1, hs.cell h.2.2.2.1, hs.cell h.2.2.2.2⟩
theorem five_grownP {W W' : World} {ob : Option Nat} {b d o : Nat} {c0 c1 c2 c3 c4 : Value} (h : W.cell? ⟨d, 2, none⟩ = some c0 ∧ W.cell? ⟨b, o + 3, none⟩ = some c1 ∧ W.cell? ⟨b, o + 3 + 1, none⟩ = some c2 ∧ W.cell? ⟨b, o + 5, none⟩ = some c3 ∧ W.cell? ⟨b, o + 5 + 1, none⟩ = some c4) (hg : W.grownBy W' ob) (h1 : ob ≠ some d) (h2 : ob ≠ some b) :
    W'.cell? ⟨d, 2, none⟩ = some c0 ∧ W'.cell? ⟨b, o + 3, none⟩ = some c1 ∧ W'.cell? ⟨b, o + 3 + 1, none⟩ = some c2 ∧ W'.cell? ⟨b, o + 5, none⟩ = some c3 ∧ W'.cell? ⟨b, o + 5 + 1, none⟩ = some c4 := ⟨cell_grown hg h.1 h1, cell_grown hg h.2.1 h2, cell_grown hg h.2.2.1 h2, cell_grown hg h.2.2.2.1 h2, cell_grown hg h.2.2.2.2 h2⟩
theorem str_neq (a : List UInt8) : ((⟨a.toArray⟩ : ByteArray).toList != (⟨a.toArray⟩ : ByteArray).toList) = false := by simp

set_option maxRecDepth 100000 in
set_option maxHeartbeats 8000000 in
theorem printRule_walk (x : Ru) (w : World) (hM : x.In w) (hf : x.fair) (hT : Tabs w) (hn : x.body.length ≤ 1048576) (hsum : sumT (atomsOf x.head x.body x.body.length) ≤ 1048576) : Calls Tryd.prog 3 #[.agg #[.string x.head.pred, .slice x.head.a x.head.ts.length x.head.cap, .slice x.a x.body.length x.cap]] w fun e w' => e = .returned (.bool true) ∧ Stay w w' := by
  have hs0 : Stay w (w.alloc (.cells #[.string x.head.pred, .slice x.head.a x.head.ts.length x.head.cap, .slice x.a x.body.length x.cap] 27)) := Stay.new w _
  have hcr : Calls Tryd.prog 4 #[.agg #[.string x.head.pred, .slice x.head.a x.head.ts.length x.head.cap, .slice x.a x.body.length x.cap]] (w.alloc (.cells #[.string x.head.pred, .slice x.head.a x.head.ts.length x.head.cap, .slice x.a x.body.length x.cap] 27)) fun e w' => ∃ (yh : At) (yb yo yc : Nat) (cs : List Li), e = .returned (.agg #[.string yh.pred, .slice yh.a yh.ts.length yh.cap, .slice (some ⟨yb, yo, none⟩) cs.length yc]) ∧ (⟨yh, some ⟨yb, yo, none⟩, yb, yo, yc, cs⟩ : Ru).like x ∧ (⟨yh, some ⟨yb, yo, none⟩, yb, yo, yc, cs⟩ : Ru).Kept w' ∧ Stay (w.alloc (.cells #[.string x.head.pred, .slice x.head.a x.head.ts.length x.head.cap, .slice x.a x.body.length x.cap] 27)) w' := by
    refine (copyRule_any x _ (Ru.stay hM hs0) hf).mono ?_
    rintro e w' ⟨⟨yh, ya, yb, yo, yc, cs⟩, rfl, hl, hk, hs⟩
    obtain rfl : ya = some ⟨yb, yo, none⟩ := hk.2.1
    exact ⟨yh, yb, yo, yc, cs, rfl, hl, hk, hs⟩
  have HX : Hid (x.In w ∧ x.fair ∧ Tabs w ∧ sumT (atomsOf x.head x.body x.body.length) ≤ 1048576 ∧ x.body.length ≤ 1048576) := ⟨hM, hf, hT, hsum, hn⟩
  have HS0 : Hid (Stay w (w.alloc (.cells #[.string x.head.pred, .slice x.head.a x.head.ts.length x.head.cap, .slice x.a x.body.length x.cap] 27))) := hs0
  clear hM hf hT hs0 hsum hn
  go_enter Tryd.func3, Tryd.ntmps3
  go_wp2_with fail
  refine hcr.mono ?_
  rintro e W1 ⟨yh, yb, yo, yc, cs, rfl, hyl, hyk, hs1⟩
  clear hcr
  obtain ⟨c0, c1, c2⟩ := rule_box hs1
  have hs2 : Stay w (W1.alloc (.cells #[.string yh.pred, .slice yh.a yh.ts.length yh.cap, .slice (some ⟨yb, yo, none⟩) cs.length yc] 27)) := (HS0.out.trans hs1).trans (Stay.new W1 _)
  have hlk := Ru.like_ok hyl
  have hyk2 : (⟨yh, some ⟨yb, yo, none⟩, yb, yo, yc, cs⟩ : Ru).Kept (W1.alloc (.cells #[.string yh.pred, .slice yh.a yh.ts.length yh.cap, .slice (some ⟨yb, yo, none⟩) cs.length yc] 27)) := hyk.stay (Stay.new W1 _)
  have hpr : Calls Tryd.prog 5 #[.agg #[.string yh.pred, .slice yh.a yh.ts.length yh.cap, .slice (some ⟨yb, yo, none⟩) cs.length yc]] (W1.alloc (.cells #[.string yh.pred, .slice yh.a yh.ts.length yh.cap, .slice (some ⟨yb, yo, none⟩) cs.length yc] 27)) fun e w' => e = .returned (tellT (⟨yh, some ⟨yb, yo, none⟩, yb, yo, yc, cs⟩ : Ru).ok (⟨yh, some ⟨yb, yo, none⟩, yb, yo, yc, cs⟩ : Ru).txt) ∧ Stay (W1.alloc (.cells #[.string yh.pred, .slice yh.a yh.ts.length yh.cap, .slice (some ⟨yb, yo, none⟩) cs.length yc] 27)) w' := pRule_any (⟨yh, some ⟨yb, yo, none⟩, yb, yo, yc, cs⟩ : Ru) _ hyk2.in (HX.out.2.2.1.stay hs2)
  have hrr : ∀ W, Stay w W → Calls Tryd.prog 6 #[.agg #[.string x.head.pred, .slice x.head.a x.head.ts.length x.head.cap, .slice x.a x.body.length x.cap]] W fun e w' => e = .returned (tellT x.ok x.txt) ∧ Stay W w' := fun W hW => y9Rule_any x W (Ru.stay HX.out.1 hW)
  rw [hlk.1, hlk.2] at hpr
  unfold tellT at hpr hrr
  generalize (if x.ok = true then x.txt else []) = tx at *
  generalize (if x.ok = true then (0 : Int) else 2) = ty at *
  have s1 := str_neq tx
  have HY : Hid ((⟨yh, some ⟨yb, yo, none⟩, yb, yo, yc, cs⟩ : Ru).like x ∧ (⟨yh, some ⟨yb, yo, none⟩, yb, yo, yc, cs⟩ : Ru).Kept (W1.alloc (.cells #[.string yh.pred, .slice yh.a yh.ts.length yh.cap, .slice (some ⟨yb, yo, none⟩) cs.length yc] 27)) ∧ Stay w (W1.alloc (.cells #[.string yh.pred, .slice yh.a yh.ts.length yh.cap, .slice (some ⟨yb, yo, none⟩) cs.length yc] 27)) ∧ Stay (w.alloc (.cells #[.string x.head.pred, .slice x.head.a x.head.ts.length x.head.cap, .slice x.a x.body.length x.cap] 27)) (W1.alloc (.cells #[.string yh.pred, .slice yh.a yh.ts.length yh.cap, .slice (some ⟨yb, yo, none⟩) cs.length yc] 27))) := ⟨hyl, hyk2, hs2, hs1.trans (Stay.new W1 _)⟩
  clear hlk hyl hyk hyk2 hs1 hs2
  go_wp2_with (first
    | (go_at_call 5; refine hpr.mono ?_; rintro e W3 ⟨rfl, hs3⟩; obtain ⟨d0, d1, d2⟩ := rule_box (HY.out.2.2.2.trans hs3); obtain ⟨f0, f1, f2⟩ := rule_box hs3; have hr3 := hrr W3 (HY.out.2.2.1.trans hs3); have H3 : Hid (Stay (W1.alloc (.cells #[.string yh.pred, .slice yh.a yh.ts.length yh.cap, .slice (some ⟨yb, yo, none⟩) cs.length yc] 27)) W3) := hs3; clear hpr hrr hs3)
    | (go_at_call 6; refine hr3.mono ?_; rintro e W4 ⟨rfl, hs4⟩; obtain ⟨k0, k1, k2⟩ := rule_box (H3.out.trans hs4); have H4 : Hid (Stay (W1.alloc (.cells #[.string yh.pred, .slice yh.a yh.ts.length yh.cap, .slice (some ⟨yb, yo, none⟩) cs.length yc] 27)) W4) := H3.out.trans hs4; clear hr3 hs4))
  have HK : Hid ((⟨yh, some ⟨yb, yo, none⟩, yb, yo, yc, cs⟩ : Ru).Kept W4 ∧ (⟨yh, some ⟨yb, yo, none⟩, yb, yo, yc, cs⟩ : Ru).like x ∧ Stay w W4 ∧ Stay (w.alloc (.cells #[.string x.head.pred, .slice x.head.a x.head.ts.length x.head.cap, .slice x.a x.body.length x.cap] 27)) W4 ∧ Stay (W1.alloc (.cells #[.string yh.pred, .slice yh.a yh.ts.length yh.cap, .slice (some ⟨yb, yo, none⟩) cs.length yc] 27)) W4 ∧ Tabs W4 ∧ cs.length ≤ 1048576 ∧ sumT (atomsOf yh cs cs.length) ≤ 1048576) :=
    ⟨HY.out.2.1.stay H4.out, HY.out.1, HY.out.2.2.1.trans H4.out, HY.out.2.2.2.trans H4.out, H4.out, HX.out.2.2.1.stay (HY.out.2.2.1.trans H4.out), by have e : cs.length = x.body.length := HY.out.1.2.1; have := HX.out.2.2.2.2; omega, by rw [show sumT (atomsOf yh cs cs.length) = _ from sumT_like HY.out.1]; exact HX.out.2.2.2.1⟩
  have HP0 : Hid (P1 W4 yh cs (.slice (some ⟨W4.heap.size, 0, none⟩) 1 1) (.slice none 0 0) (.int .i64 0) (W4.alloc (.cells #[.string yh.pred, .slice yh.a yh.ts.length yh.cap] 24))) := P1.start W4 yh cs
  obtain ⟨i1, hi1, hz10, hz11, hz12⟩ := info_parts infoAt
  obtain ⟨i2, hi2, hz20, hz21, hz22⟩ := info_parts infoTm
  clear c0 c1 c2 d0 d1 d2 f0 f1 f2 k0 k1 k2 HY H3 H4 s1
  generalize hm : cs.length = n at *
  have HN : Hid (cs.length = n) := hm
  clear hm
  generalize hym : yh.ts.length = ym at *
  go_loopw [10, 8, 9, 4, 5, 6, 7] (fun i v8 v9 _ _ _ _ wr => P1 W4 yh cs v8 v9 i wr) (fun i _ _ _ _ _ _ _ => n - (intOf i).toNat)
  case atStart => exact HP0.out
  case round =>
    obtain ⟨k, rfl, hk, hB⟩ := hrel
    rw [HN.out] at hk
    clear HP0
    by_cases hlt : k < n
    · have hkc : k < cs.length := by rw [HN.out]; exact hlt
      have hki : (k : Int) < (n : Int) := by omega
      have hki0 : (0 : Int) ≤ (k : Int) := by omega
      have hpl := fun (W : World) (hW : Stay W4 W) => pLiteral_any cs[k] W ((HK.out.1.in.2.stay hW).2 k hkc).2.2.2.2.2.2.2 (HK.out.2.2.2.2.2.1.stay hW)
      have hrl := fun (W : World) (hW : Stay W4 W) => y9Literal_any cs[k] W ((HK.out.1.in.2.stay hW).2 k hkc).2.2.2.2.2.2.2
      have HF : Hid (∀ W, Stay W4 W → W.cell? ⟨W1.heap.size, 2, none⟩ = some (.slice (some ⟨yb, yo, none⟩) n yc) ∧ W.cell? ⟨yb, yo + k * 7, none⟩ = some (.int .i64 cs[k].kind) ∧ W.cell? ⟨yb, yo + k * 7 + 1, none⟩ = some (.string cs[k].atom.pred) ∧ W.cell? ⟨yb, yo + k * 7 + 2, none⟩ = some (.slice cs[k].atom.a cs[k].atom.ts.length cs[k].atom.cap) ∧ W.cell? ⟨yb, yo + k * 7 + 3, none⟩ = some (.bool cs[k].left.var) ∧ W.cell? ⟨yb, yo + k * 7 + 4, none⟩ = some (.string cs[k].left.text) ∧ W.cell? ⟨yb, yo + k * 7 + 5, none⟩ = some (.bool cs[k].right.var) ∧ W.cell? ⟨yb, yo + k * 7 + 6, none⟩ = some (.string cs[k].right.text)) := fun W hW => by
        obtain ⟨_, _, g2⟩ := rule_box (HK.out.2.2.2.2.1.trans hW)
        obtain ⟨q0, q1, q2, q3, q4, q5, q6, _⟩ := (HK.out.1.in.2.stay hW).2 k hkc
        exact ⟨g2, q0, q1, q2, q3, q4, q5, q6⟩
      have HT : Hid (atomsOf yh cs (k + 1) = atomsOf yh cs k ++ [cs[k].atom] ∧ termsOf cs (k + 1) = termsOf cs k ++ [cs[k].left, cs[k].right] ∧ (atomsOf yh cs k).length = k + 1 ∧ (termsOf cs k).length = k * 2 ∧ n ≤ 1048576) := ⟨atomsOf_next yh cs k hkc, termsOf_next cs k hkc, atomsOf_len yh cs k (by omega), termsOf_len cs k (by omega), HK.out.2.2.2.2.2.2.1⟩
      have HB : Hid (BothAT W4 u8 u9 (atomsOf yh cs k) (termsOf cs k) wr) := hB
      obtain ⟨r0, q0, q1, q2, q3, q4, q5, q6⟩ := HF.out wr hB.stay
      have hp1 := hpl wr hB.stay
      have hlb : W1.heap.size < W4.heap.size ∧ yb < W4.heap.size := ⟨World.block_lt_of_cell? W4 _ (HF.out W4 (Stay.refl _)).1, World.block_lt_of_cell? W4 _ (HF.out W4 (Stay.refl _)).2.1⟩
      have hne1 : u9.ownBlock ≠ some W1.heap.size := fun e => by have := (hB.two.lt _ e).1; omega
      have hne2 : u9.ownBlock ≠ some yb := fun e => by have := (hB.two.lt _ e).1; omega
      clear hB hpl
      generalize cs[k] = t at *
      obtain ⟨kd, ⟨tp, ta, tb, to, tc, tts⟩, ⟨va1, s1⟩, ⟨va2, s2⟩⟩ := t
      unfold Li.v At.sl at hp1 hrl
      unfold tellT at hp1 hrl
      dsimp only at q0 q1 q2 q3 q4 q5 q6 hp1 hrl
      generalize (if Li.ok _ = true then Li.txt _ else []) = ltx at *
      generalize (if Li.ok _ = true then (0 : Int) else 2) = lty at *
      have s2q := str_neq ltx
      go_upto_region 15 with (first
        | (go_at_call 7; refine hp1.mono ?_; rintro e V1 ⟨rfl, hs1⟩; have HV1 : Hid (BothAT W4 u8 u9 (atomsOf yh cs k) (termsOf cs k) V1) := HB.out.calls hs1; obtain ⟨r0', q0', q1', q2', q3', q4', q5', q6'⟩ := HF.out V1 HV1.out.stay; try dsimp only at q0' q1' q2' q3' q4' q5' q6'; have hr1 := hrl V1 HV1.out.stay; clear hp1 hrl hs1)
        | (go_at_call 8; refine hr1.mono ?_; rintro e V2 ⟨rfl, hs2⟩; have HV2 : Hid (BothAT W4 u8 u9 (atomsOf yh cs k) (termsOf cs k) V2) := HV1.out.calls hs2; obtain ⟨r2, p0, p1, p2, p3, p4, p5, p6⟩ := HF.out V2 HV2.out.stay; try dsimp only at p0 p1 p2 p3 p4 p5 p6; clear hr1 hs2))
      obtain ⟨v8x, V3, hr8, ho8, hg8, _, hat8⟩ := append_recs (P := Tryd.prog) (ty := 34) encAtOk Tryd.underlying34 infoAt rfl (HV2.out.one.alloc (.cells (cellsR encAt [(⟨tp, ta, tb, to, tc, tts⟩ : At)]).toArray 24)) (recs_lit encAtOk V2 [(⟨tp, ta, tb, to, tc, tts⟩ : At)] 24) (c := 1) (fun h => nomatch h) (by have := HT.out.2.2.1; have := HT.out.2.2.2.2; simp [maxLen]; omega) (by have := HT.out.2.2.1; have := HT.out.2.2.2.2; simp; omega) (by rw [World.size_alloc]; exact Nat.le_succ_of_le HV2.out.stay.size)
      have HB3 : Hid (BothAT W4 v8x u9 (atomsOf yh cs (k + 1)) (termsOf cs k) V3) := by
        show BothAT W4 v8x u9 _ _ V3
        rw [HT.out.1]
        exact HV2.out.grow (Stay.new V2 _) ho8 hg8 hat8
      obtain ⟨r3, m0, m1, m2, m3, m4, m5, m6⟩ := HF.out V3 HB3.out.stay
      try dsimp only at m0 m1 m2 m3 m4 m5 m6
      clear ho8 hg8 hat8
      go_wp2_with (first
        | (at_builtin; refine wpList_append_run rfl (.tmp 69) (.tmp 76) 34 34 rfl _ _ rfl rfl hr8 ?_; clear hr8))
      have hS5 : V3.drew.cell? ⟨W1.heap.size, 2, none⟩ = some (.slice (some ⟨yb, yo, none⟩) n yc) ∧ V3.drew.cell? ⟨yb, yo + k * 7 + 3, none⟩ = some (.bool va1) ∧ V3.drew.cell? ⟨yb, yo + k * 7 + 3 + 1, none⟩ = some (.string s1) ∧ V3.drew.cell? ⟨yb, yo + k * 7 + 5, none⟩ = some (.bool va2) ∧ V3.drew.cell? ⟨yb, yo + k * 7 + 5 + 1, none⟩ = some (.string s2) := ⟨r3, m3, m4, m5, m6⟩
      have htl : (termsOf cs k).length + 2 ≤ maxLen := by have := HT.out.2.2.2.1; have := HT.out.2.2.2.2; unfold maxLen; omega
      have htb : ((termsOf cs k).length + 2) * 24 ≤ 140737488355328 := by have := HT.out.2.2.2.1; have := HT.out.2.2.2.2; omega
      have hb3 : W4.heap.size ≤ V3.heap.size := HB3.out.stay.size
      clear r0 q0 q1 q2 q3 q4 q5 q6 r0' q0' q1' q2' q3' q4' q5' q6' r2 p0 p1 p2 p3 p4 p5 p6 r3 m0 m1 m2 m3 m4 m5 m6
      go_region_held3 (fun W => W.cell? ⟨W1.heap.size, 2, none⟩ = some (.slice (some ⟨yb, yo, none⟩) n yc) ∧ W.cell? ⟨yb, yo + k * 7 + 3, none⟩ = some (.bool va1) ∧ W.cell? ⟨yb, yo + k * 7 + 3 + 1, none⟩ = some (.string s1) ∧ W.cell? ⟨yb, yo + k * 7 + 5, none⟩ = some (.bool va2) ∧ W.cell? ⟨yb, yo + k * 7 + 5 + 1, none⟩ = some (.string s2))
        (first | assumption | (exact five_keepP (by assumption) (by assumption)) | (exact five_keepP (by assumption) (Stay.new _ _)) | (exact five_keepP (o := yo + k * 7) hS5 (Stay.new V3 _)) | (exact five_grownP (by assumption) (by assumption) (by assumption) (by assumption)) | (exact five_grownP (five_keepP (o := yo + k * 7) hS5 (Stay.new V3 _)) hgrow9 hne1 hne2))
        (first
          | (refine step_append_lies _ (by rfl) _ _ _ (by rfl) W4.heap.size 38 i2 _ 2 24 Tryd.underlying22 hi2 hz20 hz21 hz22 rfl (by decide) u9 (termsOf cs k).length (cellsR encTm (termsOf cs k)) (by rfl) (HB3.out.two.alloc _) ⟨V3.heap.size, 0, none⟩ 2 2 [.bool va1, .string s1, .bool va2, .string s2] (by rfl) (by rfl) (World.news_of_block (cs := #[.bool va1, .string s1, .bool va2, .string s2]) (t := 38) (fr := (0, 0)) (heap_alloc_new V3 _)) (by simp [Value.oneCell']) (by decide) htl htb (by simp; omega) (V3.heap.size + 1) (by simp) ?_; intro gg cap9 V4 hown9 hgrow9 hat9 hlt9))
      have HB4 : Hid (P1 W4 yh cs v8x (.slice (some ⟨gg, 0, none⟩) ((termsOf cs k).length + 2) cap9) (.int .i64 ((k + 1 : Nat) : Int)) V4) := by
        refine ⟨k + 1, rfl, hkc, ?_⟩
        rw [HT.out.2.1]
        refine HB3.out.grow2 (hg := hgrow9) ?_ ?_ ?_
        · first | exact Stay.new V3 _ | exact Below.drew (Stay.new V3 _)
        · unfold OwnR
          rw [List.length_append, cellsR_app]
          exact hown9
        · rcases hat9 with e | e
          · exact .inl e.symm
          · exact .inr (by rw [e]; simp [Value.ownBlock])
      have hnb : n ≤ 1048576 := HT.out.2.2.2.2
      clear hown9 hgrow9 hat9 hlt9 hS5
      generalize (termsOf cs k).length + 2 = tq at *
      go_wp2_with fail
      go_roundw
      case rel => simpa using HB4.out
      case measure => simp [intOf]; omega
    · obtain rfl : k = n := by omega
      have hge : ¬ (k : Int) < (k : Int) := by omega
      have hlen8 : (atomsOf yh cs k).length = k + 1 := atomsOf_len yh cs k (Nat.le_of_eq HN.out.symm)
      have hlen9 : (termsOf cs k).length = k * 2 := termsOf_len cs k (Nat.le_of_eq HN.out.symm)
      have hall8 : ∀ z ∈ atomsOf yh cs k, z.Kept W4 := atomsOf_kept HK.out.1 k
      have hsum8 : sumT (atomsOf yh cs k) ≤ 1048576 := HK.out.2.2.2.2.2.2.2
      have hnb : k ≤ 1048576 := HK.out.2.2.2.2.2.2.1
      obtain ⟨a8, b8, c8, rfl, _, _, hpos8, _, _⟩ := hB.one.form encAtOk
      obtain rfl := hpos8 (by omega)
      have HZ : Hid ((atomsOf yh cs k).length = k + 1 ∧ (∀ z ∈ atomsOf yh cs k, z.Kept W4) ∧ sumT (atomsOf yh cs k) ≤ 1048576) := ⟨hlen8, hall8, hsum8⟩
      rw [hlen8] at hB ⊢
      have HP2 : Hid (P2 W4 (atomsOf yh cs k) k (.slice (some ⟨b8, 0, none⟩) (k + 1) c8) u9 (.int .i64 0) wr) := ⟨0, termsOf cs k, rfl, Nat.zero_le _, hB, by rw [hlen9]; simp [sumT]⟩
      clear hB hlen8 hlen9 hall8 hsum8 hpos8
      obtain ⟨_, _, r0⟩ := rule_box (HK.out.2.2.2.2.1.trans HP2.out.stayed)
      generalize atomsOf yh cs k = AZ at *
      go_wp2_with fail
      go_loopw [11, 9, 4, 5, 6, 7] (fun i v9 _ _ _ _ wr => P2 W4 AZ k (.slice (some ⟨b8, 0, none⟩) (k + 1) c8) v9 i wr) (fun i _ _ _ _ _ _ => k + 1 - (intOf i).toNat)
      case atStart => exact HP2.out
      case round =>
        obtain ⟨j, tl, rfl, hj, hB, htl⟩ := hrel
        rw [HZ.out.1] at hj
        clear HP2
        by_cases hlt2 : j < k + 1
        · have hjz : j < AZ.length := by rw [HZ.out.1]; exact hlt2
          have hji : (j : Int) < (k : Int) + 1 := by omega
          have hkz := HZ.out.2.1 _ (List.getElem_mem hjz)
          have hpa := fun (W : World) (hW : Stay W4 W) => pAtom_any AZ[j] W (hkz.stay hW).in (HK.out.2.2.2.2.2.1.stay hW)
          have hra := fun (W : World) (hW : Stay W4 W) => y9Atom_any AZ[j] W (hkz.stay hW).in
          have HF : Hid (∀ W, BothAT W4 (.slice (some ⟨b8, 0, none⟩) (k + 1) c8) u9 AZ tl W → W.cell? ⟨b8, j * 2, none⟩ = some (.string AZ[j].pred) ∧ W.cell? ⟨b8, j * 2 + 1, none⟩ = some (.slice AZ[j].a AZ[j].ts.length AZ[j].cap)) := fun W hW => ⟨hW.one.cell encAtOk j hjz 0 _ rfl, hW.one.cell encAtOk j hjz 1 _ rfl⟩
          have HSm : Hid (sumT (AZ.take (j + 1)) = sumT (AZ.take j) + AZ[j].ts.length ∧ sumT (AZ.take (j + 1)) ≤ 1048576 ∧ tl.length = k * 2 + sumT (AZ.take j) ∧ AZ[j].Kept W4) := ⟨sumT_take AZ j hjz, Nat.le_trans (sumT_le AZ (j + 1)) HZ.out.2.2, htl, hkz⟩
          have HB : Hid (BothAT W4 (.slice (some ⟨b8, 0, none⟩) (k + 1) c8) u9 AZ tl wr) := hB
          obtain ⟨q0, q1⟩ := HF.out wr hB
          have hp1 := hpa wr hB.stay
          clear hpa hB htl hkz
          generalize AZ[j] = z at *
          unfold At.v At.sl at hp1 hra
          unfold tellT at hp1 hra
          generalize (if At.ok z = true then At.txt z else []) = ltx at *
          generalize (if At.ok z = true then (0 : Int) else 2) = lty at *
          have s2q := str_neq ltx
          go_upto_region 24 with (first
            | (go_at_call 9; refine hp1.mono ?_; rintro e V1 ⟨rfl, hs1⟩; have HV1 : Hid (BothAT W4 (.slice (some ⟨b8, 0, none⟩) (k + 1) c8) u9 AZ tl V1) := HB.out.calls hs1; obtain ⟨q0', q1'⟩ := HF.out V1 HV1.out; have hr1 := hra V1 HV1.out.stay; clear hp1 hra hs1)
            | (go_at_call 10; refine hr1.mono ?_; rintro e V2 ⟨rfl, hs2⟩; have HV2 : Hid (BothAT W4 (.slice (some ⟨b8, 0, none⟩) (k + 1) c8) u9 AZ tl V2) := HV1.out.calls hs2; obtain ⟨p0, p1⟩ := HF.out V2 HV2.out; clear hr1 hs2))
          obtain ⟨v9x, V3, hr9, ho9, hg9, _, hat9⟩ := append_recs (P := Tryd.prog) (ty := 22) encTmOk Tryd.underlying22 infoTm rfl HV2.out.two (TmsS.recs (HSm.out.2.2.2.stay HV2.out.stay).in) HSm.out.2.2.2.fair (by have := HSm.out.1; have := HSm.out.2.1; have := HSm.out.2.2.1; unfold maxLen; omega) (by have := HSm.out.1; have := HSm.out.2.1; have := HSm.out.2.2.1; omega) HV2.out.stay.size
          have HP3 : Hid (P2 W4 AZ k (.slice (some ⟨b8, 0, none⟩) (k + 1) c8) v9x (.int .i64 ((j + 1 : Nat) : Int)) V3) := ⟨j + 1, tl ++ z.ts, rfl, hjz, HV2.out.grow2 (Stay.refl _) ho9 hg9 hat9, by have := HSm.out.1; have := HSm.out.2.2.1; rw [List.length_append]; omega⟩
          clear ho9 hg9 hat9
          go_wp2_with (first
            | (at_builtin; refine wpList_append_run rfl (.tmp 123) (.tmp 128) 22 22 rfl _ _ rfl rfl hr9 ?_; clear hr9))
          go_roundw
          case rel => simpa using HP3.out
          case measure => simp [intOf]; omega
        · obtain rfl : j = k + 1 := by omega
          have hge2 : ¬ (k : Int) + 1 < (k : Int) + 1 := by omega
          have htb : tl.length ≤ 4194304 := by
            have := sumT_le AZ (k + 1)
            have := HZ.out.2.2
            omega
          obtain ⟨a9, b9, c9, rfl, _, _, hpos9, _, _⟩ := hB.two.form encTmOk
          have HB : Hid (BothAT W4 (.slice (some ⟨b8, 0, none⟩) (k + 1) c8) (.slice a9 tl.length c9) AZ tl wr) := hB
          have HA9 : Hid (0 < tl.length → a9 = some ⟨b9, 0, none⟩) := hpos9
          clear hB hpos9 htl
          rename World => wr0
          generalize hm9 : tl.length = tn at *
          have HN9 : Hid (tl.length = tn) := hm9
          clear hm9
          go_wp2_with fail
          go_loopw [12, 4, 5, 6, 7] (fun i _ _ _ _ wr => Stay wr0 wr ∧ ∃ q : Nat, q ≤ tn ∧ i = .int .i64 (q : Int)) (fun i _ _ _ _ _ => tn - (intOf i).toNat)
          case atStart => exact ⟨Stay.refl _, 0, Nat.zero_le _, rfl⟩
          case round =>
            obtain ⟨hst, q, hq, rfl⟩ := hrel
            by_cases hlt3 : q < tn
            · have hqt : q < tl.length := by rw [HN9.out]; exact hlt3
              have hqi : (q : Int) < (tn : Int) := by omega
              obtain rfl := HA9.out (by omega)
              have HF : Hid (∀ W, Stay wr0 W → W.cell? ⟨b9, q * 2, none⟩ = some (.bool tl[q].var) ∧ W.cell? ⟨b9, q * 2 + 1, none⟩ = some (.string tl[q].text)) := fun W hW => ⟨(HB.out.two.stay hW).cell encTmOk q hqt 0 _ rfl, (HB.out.two.stay hW).cell encTmOk q hqt 1 _ rfl⟩
              obtain ⟨q0, q1⟩ := HF.out wr hst
              have hp1 := pTerm_any tl[q] wr ((HK.out.2.2.2.2.2.1.stay HB.out.stay).stay hst)
              have hra := fun W => y9Term_any tl[q] W
              have HS1 : Hid (Stay wr0 wr) := hst
              clear hst
              generalize tl[q] = z at *
              unfold Tm.v at hp1 hra
              unfold tellT at hp1 hra
              generalize (if Tm.ok z = true then Tm.txt z else []) = ltx at *
              generalize (if Tm.ok z = true then (0 : Int) else 2) = lty at *
              have s2q := str_neq ltx
              go_wp2_with (first
                | (go_at_call 11; refine hp1.mono ?_; rintro e V1 ⟨rfl, hs1⟩; obtain ⟨q0', q1'⟩ := HF.out V1 (HS1.out.trans hs1); have HV1 : Hid (Stay wr0 V1) := HS1.out.trans hs1; clear hp1 hs1)
                | (go_at_call 12; refine (hra _).mono ?_; rintro e V2 ⟨rfl, hs2⟩))
              go_roundw
              case rel => exact ⟨HV1.out.trans hs2, q + 1, by omega, by simp⟩
              case measure => simp [intOf]; omega
            · obtain rfl : q = tn := by omega
              have hge3 : ¬ (q : Int) < (q : Int) := by omega
              have hS4 : Stay W4 wr := HB.out.stay.trans hst
              obtain ⟨g0, g1, g2⟩ := rule_box (HK.out.2.2.2.2.1.trans hS4)
              obtain ⟨h0, h1, h2⟩ := rule_box (HK.out.2.2.2.1.trans hS4)
              have ev : (⟨yh, some ⟨yb, yo, none⟩, yb, yo, yc, cs⟩ : Ru).v = .agg #[.string yh.pred, .slice yh.a ym yh.cap, .slice (some ⟨yb, yo, none⟩) k yc] := by
                show Value.agg #[.string yh.pred, .slice yh.a yh.ts.length yh.cap, .slice (some ⟨yb, yo, none⟩) cs.length yc] = _
                rw [hym, HN.out]
              have ex : x.v = .agg #[.string x.head.pred, .slice x.head.a x.head.ts.length x.head.cap, .slice x.a x.body.length x.cap] := rfl
              have hkr := keptRule_yes wr (⟨yh, some ⟨yb, yo, none⟩, yb, yo, yc, cs⟩ : Ru) x HK.out.2.1 (HK.out.1.stay hS4) (Ru.stay HX.out.1 (HK.out.2.2.1.trans hS4)) HX.out.2.1
              have hkn := fun (W : World) (hW : Stay wr W) => known_any W ((HK.out.2.2.2.2.2.1.stay hS4).stay hW)
              have HSw : Hid (Stay w wr) := HK.out.2.2.1.trans hS4
              rw [ev, ex] at hkr
              clear hS4 hst ev ex
              go_wp2_with (first
                | (go_at_call 13; refine hkr.mono ?_; rintro e V1 ⟨rfl, hs1⟩; have hk1 := hkn V1 hs1; have HV1 : Hid (Stay w V1) := HSw.out.trans hs1; clear hkr hkn hs1)
                | (go_at_call 14; refine hk1.mono ?_; rintro e V2 ⟨rfl, hs2⟩))
              go_ret
              exact ⟨rfl, HV1.out.trans hs2⟩
end Go.Proofs.YtmbjghhicbbgmaaDoor
