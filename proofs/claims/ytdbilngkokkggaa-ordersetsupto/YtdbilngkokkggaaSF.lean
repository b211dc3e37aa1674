/- order.Union. -/
import Derived.Test.YtdbilngkokkggaaSD
import Derived.Test.YtdbilngkokkggaaRT
namespace Go.Proofs.Ytdbilngkokkggaa
open Go.RowKit Go.Maps Go.Sort

/-- What Union's walk leaves of two lists. -/
def unionR : List (Int × Int) → List (Int × Int) → List (Int × Int)
  | [], m => m
  | x :: l, [] => x :: l
  | x :: l, y :: m => if x.1 < y.1 then x :: unionR l (y :: m) else if y.1 < x.1 then y :: unionR (x :: l) m else x :: unionR l m
termination_by l m => l.length + m.length

theorem run_make0 (n : Nat) (hn : 16 * n ≤ 281474976710656) (W : World) :
    (Instr.makeSlice 29 (.int .i64 0) (.int .i64 n)).run Try.prog W = .ok (.slice (some ⟨W.heap.size, 0, none⟩) 0 n) (W.alloc (.cells (madeCells #[.int .i64 0, .int .i64 0] (n * 2)) 33)) := by
  obtain ⟨i, hi, hz0, hz1, hz2⟩ := info_parts infoTh
  have h := run_make (P := Try.prog) W 29 33 i _ Try.underlying29 hi hz0 .i64 .i64 0 n (by omega) (by omega) (by rw [hz2]; omega) (by omega)
  rw [hz1] at h
  simpa [Value.cells] using h
theorem own_make0 (n : Nat) (hn : n ≤ maxLen) (w : World) : OwnT w.heap.size (w.alloc (.cells (madeCells #[.int .i64 0, .int .i64 0] (n * 2)) 33)) (.slice (some ⟨w.heap.size, 0, none⟩) 0 n) [] :=
  ⟨rfl, .inr ⟨w.heap.size, n, _, rfl, Nat.le_refl _, heap_alloc_new _ _, Nat.zero_le _, hn, size_madeCells _ _, by simp [cellsT]⟩⟩
theorem drop_at {l : List (Int × Int)} {i : Nat} (h : i < l.length) : l.drop i = l[i] :: l.drop (i + 1) := List.drop_eq_getElem_cons h

/-- What is left of a list: its last r. -/
def Rem (v : Value) (m : List (Int × Int)) (j r g o : Nat) : Prop :=
  ∃ aj cj, v = .slice aj r cj ∧ j + r = m.length ∧ r ≤ cj ∧ (0 < r → aj = some ⟨g, o + j * 2, none⟩) ∧ (aj = none → cj = 0)
theorem cut_two {b off n c : Nat} (hc : n + 1 ≤ c) : ∃ ad, (∀ W, (Instr.slice 29 (.slice (some ⟨b, off, none⟩) (n + 1) c) (some (.int .i64 1)) none none).run Try.prog W = .ok (.slice (some ad) n (c - 1)) W) ∧ (0 < n → ad = ⟨b, off + 2, none⟩) := by
  refine ⟨if c = 1 then ⟨b, off, none⟩ else ⟨b, off + 2, none⟩, fun W => ?_, fun h => by rw [if_neg (by omega)]⟩
  have hs := things_size W
  rw [run_slice_l W 29 _ _ _ hs.2 .i64 1 (by omega) (by omega), hs.1]
  simp only [sliced, Result.andThen]
  by_cases e : c = 1
  · simp [e]
  · simp [e, add_at]
theorem rem_things {w : World} {a aj : Option Addr} {g o j r : Nat} {m : List (Int × Int)} (h : ThS w a g o m) (hj : j + r = m.length) (ha : 0 < r → aj = some ⟨g, o + j * 2, none⟩) : ThS w aj g (o + j * 2) (m.drop j) := by
  refine ⟨fun hp => ha (by rw [List.length_drop] at hp; omega), fun t ht => ?_⟩
  rw [List.length_drop] at ht
  have := h.2 (j + t) (by omega)
  rw [List.getElem_drop, show o + j * 2 + t * 2 = o + (j + t) * 2 by omega]
  exact this
theorem rem_step {m : List (Int × Int)} {j r g o c : Nat} {ad : Addr} (hj : j + (r + 1) = m.length) (hc : r + 1 ≤ c) (ha : 0 < r → ad = ⟨g, o + j * 2 + 2, none⟩) : Rem (.slice (some ad) r (c - 1)) m (j + 1) r g o :=
  ⟨_, _, rfl, by omega, by omega, fun h => by rw [ha h]; congr 2; omega, fun h => by cases h⟩
theorem union_end {l m : List (Int × Int)} (h : l = [] ∨ m = []) : unionR l m = l ++ m := by
  rcases h with rfl | rfl
  · simp [unionR]
  · cases l <;> simp [unionR]
theorem eight_keep {Z W W' : World} {g o g' o' : Nat} {z1 z2 x1 x2 : Int} (hs : Stay W W') (h : W.cell? ⟨g, o, none⟩ = some (.int .i64 z1) ∧ W.cell? ⟨g, o + 1, none⟩ = some (.int .i64 z2) ∧ W.cell? ⟨g', o', none⟩ = some (.int .i64 x1) ∧ W.cell? ⟨g', o' + 1, none⟩ = some (.int .i64 x2) ∧ Hid (Stay Z W)) :
    W'.cell? ⟨g, o, none⟩ = some (.int .i64 z1) ∧ W'.cell? ⟨g, o + 1, none⟩ = some (.int .i64 z2) ∧ W'.cell? ⟨g', o', none⟩ = some (.int .i64 x1) ∧ W'.cell? ⟨g', o' + 1, none⟩ = some (.int .i64 x2) ∧ Hid (Stay Z W') :=
  ⟨hs.cell h.1, hs.cell h.2.1, hs.cell h.2.2.1, hs.cell h.2.2.2.1, h.2.2.2.2.out.trans hs⟩

set_option maxRecDepth 100000 in
set_option maxHeartbeats 4000000 in
theorem union_any (w : World) (a1 a2 : Option Addr) (b1 o1 b2 o2 c1 c2 : Nat) (l m : List (Int × Int)) (h1 : ThS w a1 b1 o1 l) (h2 : ThS w a2 b2 o2 m) (hb : (l.length + m.length + 1) * 16 ≤ 140737488355328) (hc1 : l.length ≤ c1) (hc2 : m.length ≤ c2) (n1 : a1 = none → c1 = 0) (n2 : a2 = none → c2 = 0) :
    Calls Try.prog 32 #[.slice a1 l.length c1, .slice a2 m.length c2, .func (.func 18) #[] #[]] w fun e w' => ∃ v, e = .returned v ∧ OwnT w.heap.size w' v (unionR l m) ∧ Stay w w' := by
  have HX : Hid (ThS w a1 b1 o1 l ∧ ThS w a2 b2 o2 m ∧ (l.length + m.length + 1) * 16 ≤ 140737488355328 ∧ l.length ≤ c1 ∧ m.length ≤ c2 ∧ (a1 = none → c1 = 0) ∧ (a2 = none → c2 = 0)) := ⟨h1, h2, hb, hc1, hc2, n1, n2⟩
  have hl60 : (l.length : Int) ≤ 8796093022208 := by omega
  have hm60 : (m.length : Int) ≤ 8796093022208 := by omega
  have hadd : IntKind.i64.wrap ((l.length : Int) + (m.length : Int)) = ((l.length + m.length : Nat) : Int) := by rw [IntKind.wrap_i64]; omega
  have hmk := run_make0 (l.length + m.length) (by omega) w
  have HO : Hid (OwnT w.heap.size (w.alloc (.cells (madeCells #[.int .i64 0, .int .i64 0] ((l.length + m.length) * 2)) 33)) (.slice (some ⟨w.heap.size, 0, none⟩) 0 (l.length + m.length)) [] ∧ Stay w (w.alloc (.cells (madeCells #[.int .i64 0, .int .i64 0] ((l.length + m.length) * 2)) 33))) := ⟨own_make0 _ (by unfold maxLen; omega) w, Stay.new _ _⟩
  have ho := HT.orderOf_yes w
  clear h1 h2 hb hc1 hc2 n1 n2
  generalize hn : l.length + m.length = n at hmk HO hadd
  have HN : Hid (l.length + m.length = n) := hn
  clear hn
  go_enter Try.func32, Try.ntmps32
  go_wp2_with fail
  refine ho.mono ?_
  rintro e9 w9 ⟨rfl, hw9⟩
  have hw9' := hw9.symm; subst hw9'
  clear hw9 ho
  go_wp2_with fail
  have HO2 := HO
  generalize w.alloc (.cells (madeCells #[.int .i64 0, .int .i64 0] (n * 2)) 33) = W0 at HO2 ⊢
  generalize hvo : Value.slice (some ⟨w.heap.size, 0, none⟩) 0 n = vo at HO2 ⊢
  clear hvo HO hmk
  go_loopw [0, 1, 7] (fun v0 v1 vo wr => ∃ (i r1 j r2 : Nat) (out : List (Int × Int)), Rem v0 l i r1 b1 o1 ∧ Rem v1 m j r2 b2 o2 ∧ OwnT w.heap.size wr vo out ∧ out ++ unionR (l.drop i) (m.drop j) = unionR l m ∧ out.length ≤ i + j ∧ Stay w wr) (fun v0 v1 _ _ => lenV v0 + lenV v1)
  case atStart => exact ⟨0, l.length, 0, m.length, [], ⟨a1, c1, rfl, by omega, HX.out.2.2.2.1, fun h => by rw [HX.out.1.1 h]; simp, HX.out.2.2.2.2.2.1⟩, ⟨a2, c2, rfl, by omega, HX.out.2.2.2.2.1, fun h => by rw [HX.out.2.1.1 h]; simp, HX.out.2.2.2.2.2.2⟩, HO2.out.1, by simp, by simp, HO2.out.2⟩
  case round =>
    obtain ⟨i, r1, j, r2, out, hR1, hR2, hown, hun, hol, hst⟩ := hrel
    obtain ⟨ai, ci, rfl, hir, hic, hai, hni⟩ := hR1
    obtain ⟨aj, cj, rfl, hjr, hjc, haj, hnj⟩ := hR2
    by_cases hgo : 0 < r1 ∧ 0 < r2
    · obtain ⟨p, rfl⟩ : ∃ p, r1 = p + 1 := ⟨r1 - 1, by omega⟩
      obtain ⟨q, rfl⟩ : ∃ q, r2 = q + 1 := ⟨r2 - 1, by omega⟩
      obtain rfl := hai (by omega)
      obtain rfl := haj (by omega)
      have hil : i < l.length := by omega
      have hjl : j < m.length := by omega
      obtain ⟨hx1, hx2⟩ := (HX.out.1.stay hst).2 i hil
      obtain ⟨hy1, hy2⟩ := (HX.out.2.1.stay hst).2 j hjl
      have hdl := drop_at hil
      have hdm := drop_at hjl
      generalize l[i] = x at hx1 hx2 hdl
      generalize m[j] = y at hy1 hy2 hdm
      obtain ⟨x1, x2⟩ := x
      obtain ⟨y1, y2⟩ := y
      dsimp only at hx1 hx2 hy1 hy2
      obtain ⟨ad1, hcut1, had1⟩ := cut_two (b := b1) (off := o1 + i * 2) (n := p) (c := ci) (by omega)
      obtain ⟨ad2, hcut2, had2⟩ := cut_two (b := b2) (off := o2 + j * 2) (n := q) (c := cj) (by omega)
      have hp0 : (0 : Int) < (p : Int) + 1 := by omega
      have hq0 : (0 : Int) < (q : Int) + 1 := by omega
      have dp0 : decide ((0 : Int) < (p : Int) + 1) = true := decide_eq_true hp0
      have hS0 := eight_keep (Z := wr) (Stay.drew wr) ⟨hx1, hx2, hy1, hy2, Stay.refl wr⟩
      have HE : Hid (l.drop i = (x1, x2) :: l.drop (i + 1) ∧ m.drop j = (y1, y2) :: m.drop (j + 1)) := ⟨hdl, hdm⟩
      have HW : Hid (OwnT w.heap.size wr u7 out ∧ out ++ unionR (l.drop i) (m.drop j) = unionR l m ∧ out.length ≤ i + j ∧ Stay w wr) := ⟨hown, hun, hol, hst⟩
      have HC : Hid (i + (p + 1) = l.length ∧ p + 1 ≤ ci ∧ (0 < p → ad1 = ⟨b1, o1 + i * 2 + 2, none⟩) ∧ j + (q + 1) = m.length ∧ q + 1 ≤ cj ∧ (0 < q → ad2 = ⟨b2, o2 + j * 2 + 2, none⟩) ∧ True) := ⟨hir, hic, had1, hjr, hjc, had2, trivial⟩
      clear hown hun hol hst hir hic hai hni hjr hjc haj hnj hil hjl hdl hdm had1 had2 hgo HO2
      by_cases hlt : x1 < y1
      · have hby : ∀ W, Calls Try.prog 18 #[.agg #[.int .i64 x1, .int .i64 x2], .agg #[.int .i64 y1, .int .i64 y2]] W fun e w' => e = .returned (.int .i64 (-5)) ∧ Stay W w' := fun W => by
          have := byS x1 x2 y1 y2 W
          rwa [show HT.byC (x1, x2) (y1, y2) = (-5) by simp [HT.byC]; omega] at this
        have HU : Hid (out ++ [(x1, x2)] ++ unionR (l.drop (i + 1)) (m.drop j) = unionR l m) := by
          have h := HW.out.2.1
          rw [HE.out.1, HE.out.2, unionR] at h
          rw [if_pos hlt] at h
          show _ = _
          rw [HE.out.2]
          rw [← h]; simp
        go_wp2_with fail
        go_region_held3 (fun W => W.cell? ⟨b1, o1 + i * 2, none⟩ = some (.int .i64 x1) ∧ W.cell? ⟨b1, o1 + i * 2 + 1, none⟩ = some (.int .i64 x2) ∧ W.cell? ⟨b2, o2 + j * 2, none⟩ = some (.int .i64 y1) ∧ W.cell? ⟨b2, o2 + j * 2 + 1, none⟩ = some (.int .i64 y2) ∧ Hid (Stay wr W)) (first | assumption | (exact eight_keep (by assumption) (by assumption))) (first | (go_at_call 18; refine (hby _).mono ?_; rintro e8 w8 ⟨rfl, hs8⟩))
        have hcs : Stay wr w8 ∧ w8.cell? ⟨b1, o1 + i * 2, none⟩ = some (.int .i64 x1) ∧ w8.cell? ⟨b1, o1 + i * 2 + 1, none⟩ = some (.int .i64 x2) ∧ w8.cell? ⟨b2, o2 + j * 2, none⟩ = some (.int .i64 y1) ∧ w8.cell? ⟨b2, o2 + j * 2 + 1, none⟩ = some (.int .i64 y2) := ⟨(Stay.drew wr).trans hs8, hs8.cell hS0.1, hs8.cell hS0.2.1, hs8.cell hS0.2.2.1, hs8.cell hS0.2.2.2.1⟩
        obtain ⟨k0, k1, k2, k3, k4⟩ := hcs
        obtain ⟨v3, w3, hr, g2, g3, _, _⟩ := append_thing 29 (HW.out.1.stay k0) x1 x2 (by have := HW.out.2.2.1; have := HX.out.2.2.1; have := HC.out.1; have := HC.out.2.2.2.1; omega) (Nat.le_trans HW.out.2.2.2.size k0.size)
        have HR : Hid ((Builtin.append_ #[29, 29] 29 #[u7, .slice (some ⟨w8.heap.size, 0, none⟩) 1 1]).run Try.prog (w8.alloc (.cells #[.int .i64 x1, .int .i64 x2] 33)) = .ok v3 w3 ∧ OwnT w.heap.size w3 v3 (out ++ [(x1, x2)]) ∧ Stay w w3) := ⟨hr, g2, own_grow ((HW.out.2.2.2.trans k0).alloc _) (Nat.le_refl _) ((HW.out.1.stay k0).alloc _) g3⟩
        clear hr g2 g3 hS0 hs8 hby k0
        go_wp2_with (at_builtin; refine wpList_append_by rfl (.tmp 35) (.tmp 39) 29 29 rfl _ _ rfl rfl HR.out.1 ?_)
        go_roundw
        case rel => exact ⟨(i + 1), p, j, (q + 1), _, rem_step HC.out.1 HC.out.2.1 HC.out.2.2.1, ⟨_, _, rfl, HC.out.2.2.2.1, HC.out.2.2.2.2.1, fun _ => rfl, fun h => by cases h⟩, HR.out.2.1, HU.out, by rw [List.length_append, List.length_singleton]; have := HW.out.2.2.1; omega, HR.out.2.2⟩
        case measure => simp [lenV] <;> omega
      · by_cases hgt : y1 < x1
        · have hby : ∀ W, Calls Try.prog 18 #[.agg #[.int .i64 x1, .int .i64 x2], .agg #[.int .i64 y1, .int .i64 y2]] W fun e w' => e = .returned (.int .i64 7) ∧ Stay W w' := fun W => by
            have := byS x1 x2 y1 y2 W
            rwa [show HT.byC (x1, x2) (y1, y2) = 7 by simp [HT.byC]; omega] at this
          have HU : Hid (out ++ [(y1, y2)] ++ unionR (l.drop i) (m.drop (j + 1)) = unionR l m) := by
            have h := HW.out.2.1
            rw [HE.out.1, HE.out.2, unionR] at h
            rw [if_neg hlt, if_pos hgt] at h
            show _ = _
            rw [HE.out.1]
            rw [← h]; simp
          go_wp2_with fail
          go_region_held3 (fun W => W.cell? ⟨b1, o1 + i * 2, none⟩ = some (.int .i64 x1) ∧ W.cell? ⟨b1, o1 + i * 2 + 1, none⟩ = some (.int .i64 x2) ∧ W.cell? ⟨b2, o2 + j * 2, none⟩ = some (.int .i64 y1) ∧ W.cell? ⟨b2, o2 + j * 2 + 1, none⟩ = some (.int .i64 y2) ∧ Hid (Stay wr W)) (first | assumption | (exact eight_keep (by assumption) (by assumption))) (first | (go_at_call 18; refine (hby _).mono ?_; rintro e8 w8 ⟨rfl, hs8⟩))
          have hcs : Stay wr w8 ∧ w8.cell? ⟨b1, o1 + i * 2, none⟩ = some (.int .i64 x1) ∧ w8.cell? ⟨b1, o1 + i * 2 + 1, none⟩ = some (.int .i64 x2) ∧ w8.cell? ⟨b2, o2 + j * 2, none⟩ = some (.int .i64 y1) ∧ w8.cell? ⟨b2, o2 + j * 2 + 1, none⟩ = some (.int .i64 y2) := ⟨(Stay.drew wr).trans hs8, hs8.cell hS0.1, hs8.cell hS0.2.1, hs8.cell hS0.2.2.1, hs8.cell hS0.2.2.2.1⟩
          obtain ⟨k0, k1, k2, k3, k4⟩ := hcs
          obtain ⟨v3, w3, hr, g2, g3, _, _⟩ := append_thing 29 (HW.out.1.stay k0) y1 y2 (by have := HW.out.2.2.1; have := HX.out.2.2.1; have := HC.out.1; have := HC.out.2.2.2.1; omega) (Nat.le_trans HW.out.2.2.2.size k0.size)
          have HR : Hid ((Builtin.append_ #[29, 29] 29 #[u7, .slice (some ⟨w8.heap.size, 0, none⟩) 1 1]).run Try.prog (w8.alloc (.cells #[.int .i64 y1, .int .i64 y2] 33)) = .ok v3 w3 ∧ OwnT w.heap.size w3 v3 (out ++ [(y1, y2)]) ∧ Stay w w3) := ⟨hr, g2, own_grow ((HW.out.2.2.2.trans k0).alloc _) (Nat.le_refl _) ((HW.out.1.stay k0).alloc _) g3⟩
          clear hr g2 g3 hS0 hs8 hby k0
          go_wp2_with (at_builtin; refine wpList_append_by rfl (.tmp 43) (.tmp 47) 29 29 rfl _ _ rfl rfl HR.out.1 ?_)
          go_roundw
          case rel => exact ⟨i, (p + 1), (j + 1), q, _, ⟨_, _, rfl, HC.out.1, HC.out.2.1, fun _ => rfl, fun h => by cases h⟩, rem_step HC.out.2.2.2.1 HC.out.2.2.2.2.1 HC.out.2.2.2.2.2.1, HR.out.2.1, HU.out, by rw [List.length_append, List.length_singleton]; have := HW.out.2.2.1; omega, HR.out.2.2⟩
          case measure => simp [lenV] <;> omega
        · have hby : ∀ W, Calls Try.prog 18 #[.agg #[.int .i64 x1, .int .i64 x2], .agg #[.int .i64 y1, .int .i64 y2]] W fun e w' => e = .returned (.int .i64 0) ∧ Stay W w' := fun W => by
            have := byS x1 x2 y1 y2 W
            rwa [show HT.byC (x1, x2) (y1, y2) = 0 by simp [HT.byC]; omega] at this
          have HU : Hid (out ++ [(x1, x2)] ++ unionR (l.drop (i + 1)) (m.drop (j + 1)) = unionR l m) := by
            have h := HW.out.2.1
            rw [HE.out.1, HE.out.2, unionR] at h
            rw [if_neg hlt, if_neg hgt] at h
            show _ = _
            rw [← h]; simp
          go_wp2_with fail
          go_region_held3 (fun W => W.cell? ⟨b1, o1 + i * 2, none⟩ = some (.int .i64 x1) ∧ W.cell? ⟨b1, o1 + i * 2 + 1, none⟩ = some (.int .i64 x2) ∧ W.cell? ⟨b2, o2 + j * 2, none⟩ = some (.int .i64 y1) ∧ W.cell? ⟨b2, o2 + j * 2 + 1, none⟩ = some (.int .i64 y2) ∧ Hid (Stay wr W)) (first | assumption | (exact eight_keep (by assumption) (by assumption))) (first | (go_at_call 18; refine (hby _).mono ?_; rintro e8 w8 ⟨rfl, hs8⟩))
          have hcs : Stay wr w8 ∧ w8.cell? ⟨b1, o1 + i * 2, none⟩ = some (.int .i64 x1) ∧ w8.cell? ⟨b1, o1 + i * 2 + 1, none⟩ = some (.int .i64 x2) ∧ w8.cell? ⟨b2, o2 + j * 2, none⟩ = some (.int .i64 y1) ∧ w8.cell? ⟨b2, o2 + j * 2 + 1, none⟩ = some (.int .i64 y2) := ⟨(Stay.drew wr).trans hs8, hs8.cell hS0.1, hs8.cell hS0.2.1, hs8.cell hS0.2.2.1, hs8.cell hS0.2.2.2.1⟩
          obtain ⟨k0, k1, k2, k3, k4⟩ := hcs
          obtain ⟨v3, w3, hr, g2, g3, _, _⟩ := append_thing 29 (HW.out.1.stay k0) x1 x2 (by have := HW.out.2.2.1; have := HX.out.2.2.1; have := HC.out.1; have := HC.out.2.2.2.1; omega) (Nat.le_trans HW.out.2.2.2.size k0.size)
          have HR : Hid ((Builtin.append_ #[29, 29] 29 #[u7, .slice (some ⟨w8.heap.size, 0, none⟩) 1 1]).run Try.prog (w8.alloc (.cells #[.int .i64 x1, .int .i64 x2] 33)) = .ok v3 w3 ∧ OwnT w.heap.size w3 v3 (out ++ [(x1, x2)]) ∧ Stay w w3) := ⟨hr, g2, own_grow ((HW.out.2.2.2.trans k0).alloc _) (Nat.le_refl _) ((HW.out.1.stay k0).alloc _) g3⟩
          clear hr g2 g3 hS0 hs8 hby k0
          go_wp2_with (at_builtin; refine wpList_append_by rfl (.tmp 35) (.tmp 39) 29 29 rfl _ _ rfl rfl HR.out.1 ?_)
          go_roundw
          case rel => exact ⟨(i + 1), p, (j + 1), q, _, rem_step HC.out.1 HC.out.2.1 HC.out.2.2.1, rem_step HC.out.2.2.2.1 HC.out.2.2.2.2.1 HC.out.2.2.2.2.2.1, HR.out.2.1, HU.out, by rw [List.length_append, List.length_singleton]; have := HW.out.2.2.1; omega, HR.out.2.2⟩
          case measure => simp [lenV] <;> omega
    · have hT1 := rem_things (HX.out.1.stay hst) hir hai
      have e1 : r1 = (l.drop i).length := by rw [List.length_drop]; omega
      have e2 : r2 = (m.drop j).length := by rw [List.length_drop]; omega
      have hbd : (out.length + r1 + r2) * 16 ≤ 140737488355328 := by have := HX.out.2.2.1; omega
      obtain ⟨v3, w3, hr3, g3, k3, _, _⟩ := append_things 29 hown hT1 (c := ci) (fun h => ⟨hni h, List.eq_nil_of_length_eq_zero (by have := hni h; omega)⟩) (by omega) hst.size
      have hs3 : Stay w w3 := own_grow hst (Nat.le_refl _) hown k3
      obtain ⟨v4, w4, hr4, g4, k4, _, _⟩ := append_things 29 g3 (rem_things (HX.out.2.1.stay hs3) hjr haj) (c := cj) (fun h => ⟨hnj h, List.eq_nil_of_length_eq_zero (by have := hnj h; omega)⟩) (by rw [List.length_append]; omega) hs3.size
      have hs4 : Stay w w4 := own_grow hs3 (Nat.le_refl _) g3 k4
      rw [← e1] at hr3
      rw [← e2] at hr4
      have hfin : out ++ l.drop i ++ m.drop j = unionR l m := by
        rw [← hun, union_end (by
          rcases Nat.eq_zero_or_pos r1 with h | h
          · exact .inl (List.eq_nil_of_length_eq_zero (by omega))
          · exact .inr (List.eq_nil_of_length_eq_zero (by omega))), List.append_assoc]
      rw [hfin] at g4
      have HA : Hid ((Builtin.append_ #[29, 29] 29 #[u7, .slice ai r1 ci]).run Try.prog wr = .ok v3 w3) := hr3
      have HB : Hid ((Builtin.append_ #[29, 29] 29 #[v3, .slice aj r2 cj]).run Try.prog w3 = .ok v4 w4 ∧ OwnT w.heap.size w4 v4 (unionR l m) ∧ Stay w w4) := ⟨hr4, g4, hs4⟩
      clear hr3 g3 k3 hs3 hr4 g4 k4 hs4 hfin hT1 e1 e2 hbd hown hun hol hst hir hic hai hni hjr hjc haj hnj HO2
      rcases Nat.eq_zero_or_pos r1 with rfl | hp1
      · clear hgo
        go_wp2_with (at_builtin; first | (refine wpList_append_by rfl (.tmp 53) (.tmp 54) 29 29 rfl _ _ rfl rfl HA.out ?_) | (refine wpList_append_by rfl (.tmp 55) (.tmp 56) 29 29 rfl _ _ rfl rfl HB.out.1 ?_))
        go_ret
        exact ⟨_, rfl, HB.out.2⟩
      · obtain rfl : r2 = 0 := by omega
        have hp2 : (0 : Int) < (r1 : Int) := by omega
        have dp2 : decide ((0 : Int) < (r1 : Int)) = true := decide_eq_true hp2
        clear hgo hp1
        go_wp2_with (at_builtin; first | (refine wpList_append_by rfl (.tmp 53) (.tmp 54) 29 29 rfl _ _ rfl rfl HA.out ?_) | (refine wpList_append_by rfl (.tmp 55) (.tmp 56) 29 29 rfl _ _ rfl rfl HB.out.1 ?_))
        go_ret
        exact ⟨_, rfl, HB.out.2⟩
end Go.Proofs.Ytdbilngkokkggaa
