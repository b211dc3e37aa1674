/- A step, whatever is asked; two new tables, one beside the other. No walk of its own here. -/
import Derived.Test.YtdnophgcdnghkaaJ4l
import Derived.Test.YtdnophgcdnghkaaJ4h
import Derived.Test.YtdnophgcdnghkaaJ4i
import Derived.Test.YtdnophgcdnghkaaIS
namespace Go.Proofs.Ytdnophgcdnghkaa.I
open Go.RowKit Go.Maps Go.Shelf Go.Proofs.Ytdnophgcdnghkaa

/-- What a step leaves of the world. -/
def StepR (B : Nat) (w : World) (wb : Nat) (way : Int) (n : Nat) (o : Nat → Nat) (r t' r' i : Nat) (L : List Value) (w' : World) : Prop :=
  ∃ o' tn vo vr os rs, WC B w' wb way (n + 1) o' tn r t' r' vo vr os rs ∧ os.length ≤ 20 ∧ Turn (fun k => o k ≠ 0) w w' ∧ BxL w' wb (((L.set 4 vo).set 5 vr).set i (.pointer (some ⟨tn, 0, none⟩)))
section
variable {B wb t r t' r' n m : Nat} {w W W' : World} {way : Int} {o o' : Nat → Nat} {vo vr : Value} {os rs : List Nat} {fp : Nat × Nat × Int} {ps : List (Int × Int)} {N bt br : Nat}
theorem step_any (h : WC B w wb way n o t r t' r' vo vr os rs) (hb : n + 1 ≤ 1073741824) (hol : os.length ≤ 20) {i : Nat} {kind on key val leave : Int} (A : Ask w wb i t r on key val leave) {L : List Value} (hbx : BxL w wb L) (h4 : L[4]? = some vo) (h5 : L[5]? = some vr) (hi : L[i]? = some (.pointer (some ⟨t, 0, none⟩))) :
    Calls Try.prog 9 #[.pointer (some ⟨wb, 0, none⟩), .agg #[.int .i64 kind, .int .i64 on, .int .i64 key, .int .i64 val, .int .i64 leave]] w fun e w' => e = .returned (.bool true) ∧ StepR B w wb way n o r t' r' i L w' := by
  by_cases h8 : kind = 8
  · subst h8
    refine (step_aside h hb hol A hbx h4 h5 hi).mono ?_
    rintro e w' ⟨rfl, o', ct, vo', vr', os', rs', q1, q2, q3, q4⟩
    exact ⟨rfl, o', ct, vo', vr', os', rs', q1, q2, q3.mono (fun k _ hk => by omega), q4⟩
  obtain ⟨fp, ps, N, M⟩ := h.m
  have key9 : Calls Try.prog 9 #[.pointer (some ⟨wb, 0, none⟩), .agg #[.int .i64 kind, .int .i64 on, .int .i64 key, .int .i64 val, .int .i64 leave]] w fun e w' => e = .returned (.bool true) ∧ Done w fp t r way (n + 1) o w' := by
    by_cases h1 : kind = 1
    · subst h1; exact step_put M A
    by_cases h2 : kind = 2
    · subst h2; exact step_get M A
    by_cases h3 : kind = 3
    · subst h3; exact step_take M A
    by_cases h4 : kind = 4
    · subst h4; exact step_size M A
    by_cases h5 : kind = 5
    · subst h5; exact step_place M A
    by_cases h6 : kind = 6
    · subst h6; exact step_all M A
    by_cases h7 : kind = 7
    · subst h7; exact step_lay M A
    exact step_rest M A (by omega)
  refine key9.mono ?_
  rintro e w' ⟨rfl, hd⟩
  obtain ⟨o', hW, tu⟩ := h.done M hd hb
  have hwb : ¬ (o wb = t + 1 ∨ o wb = r + 1) := by
    have := h.row.own wb (.inl rfl)
    have := h.nw
    omega
  refine ⟨rfl, o', t, vo, vr, os, rs, hW, hol, tu.mono (fun k _ hk => by omega), ?_⟩
  rw [set_same h4, set_same h5, set_same hi]
  exact hbx.block (tu.block wb h.row.size.2 hwb)

theorem t_new {W : World} (hF : Fns W fp) (o : Nat → Nat) : Calls Try.prog 5 #[(.func (.func 20) #[] #[.pointer (some ⟨fp.1, 0, none⟩)]), (.func (.func 22) #[] #[.pointer (some ⟨fp.2.1, 0, none⟩)])] W fun e w' =>
    e = .returned (.tuple #[.pointer (some ⟨W.heap.size + 1, 0, none⟩), .int .i64 0]) ∧ TS w' fp (W.heap.size + 1) [] 8 0 (lab W o (W.heap.size + 1 + 1)) ∧ Stay W w' := by
  refine (new_any hF).mono ?_
  rintro e w' ⟨rfl, hT, hs⟩
  refine ⟨rfl, ⟨_, _, _, _, _, _, hT, rfl, Nat.le_refl _, by omega, fun k hk => lab_new ?_⟩, hs⟩
  rcases hk with rfl | rfl | hk
  · omega
  · omega
  · simp [Value.ownBlock] at hk
theorem r_new (W : World) (way : Int) (hw : KeyOk way) (o : Nat → Nat) : Calls Try.prog 8 #[.int .i64 way] W fun e w' => e = .returned (.pointer (some ⟨W.heap.size, 0, none⟩)) ∧ RS w' W.heap.size way [] 8 (lab W o (W.heap.size + 1)) ∧ Stay W w' := by
  refine (rNew_any W way hw).mono ?_
  rintro e w' ⟨rfl, hR, hs⟩
  refine ⟨rfl, ⟨_, _, _, hR, fun k hk => lab_new ?_⟩, hs⟩
  rcases hk with rfl | hk
  · omega
  · simp [Value.ownBlock] at hk

/-- Between the rounds in which the tables are made. -/
def Ini (w W : World) (wb : Nat) (way : Int) (k : Nat) : Prop := Stay w W ∧
  ((k = 0 ∧ BxL W wb [.pointer none, .pointer none, .pointer none, .pointer none, .slice none 0 0, .slice none 0 0]) ∨
   (k = 1 ∧ ∃ o t r, MtE W t r way 0 o ∧ BxL W wb [.pointer (some ⟨t, 0, none⟩), .pointer none, .pointer (some ⟨r, 0, none⟩), .pointer none, .slice none 0 0, .slice none 0 0] ∧ o wb = wb + 1 ∧ (∀ k, k < w.heap.size → o k = 0) ∧ wb ≠ t ∧ wb ≠ r) ∨
   (k = 2 ∧ ∃ o t r t' r', WC w.heap.size W wb way 0 o t r t' r' (.slice none 0 0) (.slice none 0 0) [] [] ∧ BxL W wb [.pointer (some ⟨t, 0, none⟩), .pointer (some ⟨t', 0, none⟩), .pointer (some ⟨r, 0, none⟩), .pointer (some ⟨r', 0, none⟩), .slice none 0 0, .slice none 0 0]))
/-- A pair that is made. -/
theorem new_pair {X0 X1 X2 X3 : World} {fp : Nat × Nat × Int} {t c i j wb : Nat} {a b : Value} {o1 : Nat → Nat} (hw : fp.2.2 = way) (hfn : ∀ k, fnfoot fp k → k < X0.heap.size ∧ o1 k = 0) (hT : TS X1 fp t [] 8 0 (lab X0 o1 (t + 1))) (ht : X0.heap.size ≤ t) (hs1 : Stay X0 X1) (hwb : wb < X0.heap.size)
    (hs2 : Stay (X1.setCell ⟨wb, i, none⟩ a) X2) (hR : RS X3 c way [] 8 (lab X2 (lab X0 o1 (t + 1)) (c + 1))) (hc : X2.heap.size ≤ c) (hs3 : Stay X2 X3) (ho : o1 wb = wb + 1) :
    MtE (X3.setCell ⟨wb, j, none⟩ b) t c way 0 (lab X2 (lab X0 o1 (t + 1)) (c + 1)) ∧ Turn (fun k => k = wb) X0 (X3.setCell ⟨wb, j, none⟩ b) := by
  have z1 := hs1.size
  have t1 : Turn (fun k => k = wb) X1 (X1.setCell ⟨wb, i, none⟩ a) := (Turn.refl (fun k => k = wb) X1).set rfl _ _
  have z1b := t1.size
  have z2 := hs2.size
  have z3 := hs3.size
  have t3 : Turn (fun k => k = wb) X3 (X3.setCell ⟨wb, j, none⟩ b) := (Turn.refl (fun k => k = wb) X3).set rfl _ _
  have t12 : Turn (fun k => k = wb) X1 X2 := t1.trans (Turn.of_stay hs2)
  have tg : Turn (fun k => k = wb) X1 (X3.setCell ⟨wb, j, none⟩ b) := (t12.trans (Turn.of_stay hs3)).trans t3
  have hw1 : lab X0 o1 (t + 1) wb = wb + 1 := by rw [lab_old hwb]; exact ho
  have hct := hT.facts
  have hT2 : TS (X3.setCell ⟨wb, j, none⟩ b) fp t [] 8 0 (lab X2 (lab X0 o1 (t + 1)) (c + 1)) := hT.frame tg (fun k hk h1 h2 => by rw [h2, hw1] at h1; omega) (fun k hk h2 => by have := hfn k hk; rw [h2, ho] at this; omega) (fun k hk => lab_old (by omega))
  have hR2 : RS (X3.setCell ⟨wb, j, none⟩ b) c way [] 8 (lab X2 (lab X0 o1 (t + 1)) (c + 1)) := hR.frame t3 (fun k hk h1 h2 => by rw [h2, lab_old (by omega), hw1] at h1; omega) (fun _ _ => rfl)
  refine ⟨⟨fp, [], 8, hT2, hR2, hw, by omega, fun k hk => ?_, by omega⟩, (Turn.of_stay hs1).trans tg⟩
  obtain ⟨g1, g2⟩ := hfn k hk
  rw [lab_old (by omega), lab_old g1]
  exact g2
theorem Ini.opened {k : Nat} (h : Ini w W w.heap.size way k) (hk : k < 2) : ∃ (o : Nat → Nat) (L : List Value), o w.heap.size = w.heap.size + 1 ∧ (∀ j, j < w.heap.size → o j = 0) ∧ BxL W w.heap.size L ∧ L[k]? = some (.pointer none) ∧ L[2 + k]? = some (.pointer none) ∧ Stay w W ∧
    ∀ (V : World) (t c : Nat) (oN : Nat → Nat), MtE V t c way 0 oN → Turn (fun j => j = w.heap.size) W V → (∀ j, j < W.heap.size → oN j = o j) → BxL V w.heap.size ((L.set k (.pointer (some ⟨t, 0, none⟩))).set (2 + k) (.pointer (some ⟨c, 0, none⟩))) → W.heap.size ≤ t → W.heap.size ≤ c → Ini w V w.heap.size way (k + 1) := by
  obtain ⟨hs, hI⟩ := h
  have hst : ∀ V, Turn (fun j => j = w.heap.size) W V → Stay w V := fun V tu => tu.stay hs (fun j hj e => by omega)
  rcases hI with ⟨rfl, hbx⟩ | ⟨rfl, o, t0, r0, hm, hbx, ho1, ho2, hn1, hn2⟩ | ⟨rfl, -⟩
  · refine ⟨fun j => if j = w.heap.size then w.heap.size + 1 else 0, _, by simp, fun j hj => by simp; omega, hbx, rfl, rfl, hs, fun V t c oN hm tu ho hb ht hc => ⟨hst V tu, .inr (.inl ⟨rfl, oN, t, c, hm, hb, ?_, fun j hj => ?_, ?_, ?_⟩)⟩⟩
    · rw [ho _ (hbx.cell (j := 0) rfl).2.2]; simp
    · rw [ho _ (by have := hs.size; omega)]; simp; omega
    · have := (hbx.cell (j := 0) rfl).2.2; omega
    · have := (hbx.cell (j := 0) rfl).2.2; omega
  · have hwl := (hbx.cell (j := 1) rfl).2.2
    refine ⟨o, _, ho1, ho2, hbx, rfl, rfl, hs, fun V t c oN hm' tu ho hb ht hc => ⟨hst V tu, .inr (.inr ⟨rfl, oN, t0, r0, t, c, ?_, hb⟩)⟩⟩
    have hml := hm.lt
    refine ⟨⟨OwnR.nil, OwnR.nil, fun j hj => ?_, by simp [Value.ownBlock], by simp [Value.ownBlock], fun j hj => by simp [Value.ownBlock] at hj, fun j hj => ?_, by have := hs.size; have := tu.size; omega, by have := tu.size; omega⟩, ?_, hm', ⟨by omega, by omega, by omega, by omega⟩, ⟨hn1, hn2, by omega, by omega⟩, rfl, fun j x y hx => by simp at hx⟩
    · rcases hj with rfl | hj | hj
      · rw [ho _ hwl]; exact ho1
      · simp [Value.ownBlock] at hj
      · simp [Value.ownBlock] at hj
    · rw [ho _ (by have := hs.size; omega)]; exact ho2 j hj
    · exact hm.frame tu (fun j hj e => by subst e; rw [ho1]; omega) ho (Nat.le_refl _) (by omega)
  · omega
/-- Between two steps of a script. -/
def PlI (w W : World) (way : Int) (k : Nat) : Prop := ∃ (o : Nat → Nat) (t0 t1 r0 r1 : Nat) (vo vr : Value) (os rs : List Nat), WC w.heap.size W w.heap.size way k o t0 r0 t1 r1 vo vr os rs ∧
  BxL W w.heap.size [.pointer (some ⟨t0, 0, none⟩), .pointer (some ⟨t1, 0, none⟩), .pointer (some ⟨r0, 0, none⟩), .pointer (some ⟨r1, 0, none⟩), vo, vr] ∧ os.length ≤ 20 ∧ Stay w W
theorem Ini.plays (h : Ini w W w.heap.size way 2) : PlI w W way 0 := by
  obtain ⟨hs, ⟨h0, -⟩ | ⟨h0, -⟩ | ⟨-, o, t, r, t', r', hc, hb⟩⟩ := h
  · cases h0
  · cases h0
  · exact ⟨o, t, t', r, r', _, _, [], [], hc, hb, by simp, hs⟩
theorem PlI.pick {k i : Nat} (h : PlI w W way k) (hi : i < 2) : ∃ (o : Nat → Nat) (t r t' r' : Nat) (vo vr : Value) (os rs : List Nat) (L : List Value), WC w.heap.size W w.heap.size way k o t r t' r' vo vr os rs ∧ BxL W w.heap.size L ∧ L[4]? = some vo ∧ L[5]? = some vr ∧ L[i]? = some (.pointer (some ⟨t, 0, none⟩)) ∧ L[2 + i]? = some (.pointer (some ⟨r, 0, none⟩)) ∧ os.length ≤ 20 ∧
    ∀ w', StepR w.heap.size W w.heap.size way k o r t' r' i L w' → PlI w w' way (k + 1) := by
  obtain ⟨o, t0, t1, r0, r1, vo, vr, os, rs, hc, hb, hl, hs⟩ := h
  have hst : ∀ w', Turn (fun j => o j ≠ 0) W w' → Stay w w' := fun w' tu => tu.stay hs (fun j hj e => e (hc.row.low j hj))
  match i, hi with
  | 0, _ =>
    refine ⟨o, t0, r0, t1, r1, vo, vr, os, rs, _, hc, hb, rfl, rfl, rfl, rfl, hl, ?_⟩
    rintro w' ⟨o', tn, vo', vr', os', rs', q1, q2, q3, q4⟩
    exact ⟨o', tn, t1, r0, r1, vo', vr', os', rs', q1, q4, q2, hst w' q3⟩
  | 1, _ =>
    refine ⟨o, t1, r1, t0, r0, vo, vr, os, rs, _, hc.swap, hb, rfl, rfl, rfl, rfl, hl, ?_⟩
    rintro w' ⟨o', tn, vo', vr', os', rs', q1, q2, q3, q4⟩
    exact ⟨o', t0, tn, r0, r1, vo', vr', os', rs', q1.swap, q4, q2, hst w' q3⟩
/-- Behind the script: all that is to be held against one another. -/
structure WE (B : Nat) (W : World) (wb : Nat) (way : Int) (n : Nat) (o : Nat → Nat) (t0 r0 t1 r1 : Nat) (vo vr : Value) (os rs : List Nat) : Prop where
  row : WR B W wb o vo vr os rs
  m0 : MtE W t0 r0 way n o
  m1 : MtE W t1 r1 way n o
  nw : wb ≠ t0 ∧ wb ≠ r0 ∧ wb ≠ t1 ∧ wb ≠ r1
  len : os.length = rs.length
  old : ∀ (j x y : Nat), os[j]? = some x → rs[j]? = some y → MtE W x y way n o ∧ x ≠ wb ∧ y ≠ wb
def EnI (w W : World) (way : Int) (n k : Nat) : Prop := ∃ (o : Nat → Nat) (t0 t1 r0 r1 : Nat) (vo vr : Value) (os rs : List Nat), WE w.heap.size W w.heap.size way n o t0 r0 t1 r1 vo vr os rs ∧
  BxL W w.heap.size [.pointer (some ⟨t0, 0, none⟩), .pointer (some ⟨t1, 0, none⟩), .pointer (some ⟨r0, 0, none⟩), .pointer (some ⟨r1, 0, none⟩), vo, vr] ∧ os.length ≤ 20 + k ∧ Stay w W
theorem PlI.ends {k : Nat} (h : PlI w W way k) : EnI w W way k 0 := by
  obtain ⟨o, t0, t1, r0, r1, vo, vr, os, rs, hc, hb, hl, hs⟩ := h
  exact ⟨o, t0, t1, r0, r1, vo, vr, os, rs, ⟨hc.row, hc.m, hc.m', hc.nw, hc.len, fun j x y hx hy => by
    obtain ⟨g1, ⟨a1, a2, a3, a4, a5⟩, ⟨b1, b2, b3, b4, b5⟩⟩ := hc.old j x y hx hy
    exact ⟨g1, a5, b5⟩⟩, hb, hl, hs⟩
theorem WE.stay {t0 r0 t1 r1 : Nat} (h : WE B W wb way n o t0 r0 t1 r1 vo vr os rs) (hs : Stay W W') : WE B W' wb way n o t0 r0 t1 r1 vo vr os rs := by
  have hb := h.m0.lt.2.2.2.2.2
  have fr : ∀ {x y : Nat}, MtE W x y way n o → MtE W' x y way n o := fun hx => hx.frame (S := fun _ => False) (Turn.of_stay hs) (fun _ _ e => e.elim) (fun _ _ => rfl) (Nat.le_refl _) hb
  exact ⟨h.row.frame (S := fun _ => False) (Turn.of_stay hs) (fun _ _ e => e.elim) (fun _ _ => rfl), fr h.m0, fr h.m1, h.nw, h.len, fun j x y hx hy => ⟨fr (h.old j x y hx hy).1, (h.old j x y hx hy).2⟩⟩
/-- Both rows have grown by the same pair. -/
theorem WE.push {t0 r0 t1 r1 x y : Nat} {V : World} {vo' vr' : Value} {o' : Nat → Nat} (h : WE B W wb way n o t0 r0 t1 r1 vo vr os rs) (hxy : (x = t0 ∧ y = r0) ∨ (x = t1 ∧ y = r1)) (hr : WR B V wb o' vo' vr' (os ++ [x]) (rs ++ [y])) (tu : Turn (fun k => o k = wb + 1) W V) (ho : ∀ k, k < W.heap.size → o' k = o k) :
    WE B V wb way n o' t0 r0 t1 r1 vo' vr' (os ++ [x]) (rs ++ [y]) := by
  have hb := h.m0.lt.2.2.2.2.2
  obtain ⟨w1, w2, w3, w4⟩ := h.nw
  have fr : ∀ {x y : Nat}, x ≠ wb → y ≠ wb → MtE W x y way n o → MtE V x y way n o' := fun h1 h2 hx => hx.frame tu (fun k _ hk => by rw [hk]; omega) ho (Nat.le_refl _) hb
  have f0 := fr w1.symm w2.symm h.m0
  have f1 := fr w3.symm w4.symm h.m1
  refine ⟨hr, f0, f1, h.nw, by simp [h.len], fun j x' y' hx hy => ?_⟩
  by_cases hj : j < os.length
  · rw [List.getElem?_append_left hj] at hx
    rw [List.getElem?_append_left (by rw [← h.len]; exact hj)] at hy
    obtain ⟨g1, g2, g3⟩ := h.old j x' y' hx hy
    exact ⟨fr g2 g3 g1, g2, g3⟩
  · have hj2 : j = os.length := by have := (List.getElem?_eq_some_iff.1 hx).1; simp at this; omega
    subst hj2
    rw [List.getElem?_append_right (Nat.le_refl _), Nat.sub_self] at hx
    rw [h.len, List.getElem?_append_right (Nat.le_refl _), Nat.sub_self] at hy
    simp at hx hy
    subst hx
    subst hy
    rcases hxy with ⟨rfl, rfl⟩ | ⟨rfl, rfl⟩
    · exact ⟨f0, w1.symm, w2.symm⟩
    · exact ⟨f1, w3.symm, w4.symm⟩
/-- The pair whose turn it is to be put behind the others. -/
theorem EnI.pick {k : Nat} (h : EnI w W way n k) (hk : k < 2) : ∃ (o : Nat → Nat) (x y : Nat) (vo vr : Value) (os rs : List Nat) (L : List Value), WR w.heap.size W w.heap.size o vo vr os rs ∧ BxL W w.heap.size L ∧ L[4]? = some vo ∧ L[5]? = some vr ∧ L[k]? = some (.pointer (some ⟨x, 0, none⟩)) ∧ L[2 + k]? = some (.pointer (some ⟨y, 0, none⟩)) ∧ os.length ≤ 22 ∧ rs.length ≤ 22 ∧
    ∀ V o' vo' vr', WR w.heap.size V w.heap.size o' vo' vr' (os ++ [x]) (rs ++ [y]) → Turn (fun j => o j = w.heap.size + 1) W V → (∀ j, j < W.heap.size → o' j = o j) → BxL V w.heap.size ((L.set 4 vo').set 5 vr') → EnI w V way n (k + 1) := by
  obtain ⟨o, t0, t1, r0, r1, vo, vr, os, rs, hc, hb, hl, hs⟩ := h
  have hst : ∀ V, Turn (fun j => o j = w.heap.size + 1) W V → Stay w V := fun V tu => tu.stay hs (fun j hj e => by have := hc.row.low j hj; omega)
  have hll := hc.len
  match k, hk with
  | 0, _ => exact ⟨o, t0, r0, vo, vr, os, rs, _, hc.row, hb, rfl, rfl, rfl, rfl, by omega, by omega, fun V o' vo' vr' hr tu ho hbx => ⟨o', t0, t1, r0, r1, vo', vr', _, _, hc.push (.inl ⟨rfl, rfl⟩) hr tu ho, hbx, by simp; omega, hst V tu⟩⟩
  | 1, _ => exact ⟨o, t1, r1, vo, vr, os, rs, _, hc.row, hb, rfl, rfl, rfl, rfl, by omega, by omega, fun V o' vo' vr' hr tu ho hbx => ⟨o', t0, t1, r0, r1, vo', vr', _, _, hc.push (.inr ⟨rfl, rfl⟩) hr tu ho, hbx, by simp; omega, hst V tu⟩⟩
end
end Go.Proofs.Ytdnophgcdnghkaa.I
