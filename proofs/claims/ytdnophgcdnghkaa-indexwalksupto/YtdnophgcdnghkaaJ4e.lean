/- One step with two tables side by side: what it leaves; Put, Get, Take. -/
import Derived.Test.YtdnophgcdnghkaaJ4b
import Derived.Deep.RegionHeld3
import Derived.BigQuiet
namespace Go.Proofs.Ytdnophgcdnghkaa.I
open Go.RowKit Go.Maps Go.Proofs.Ytdnophgcdnghkaa

/-- What a step leaves of the two tables that it is about. -/
def Done (w : World) (fp : Nat × Nat × Int) (bt br : Nat) (way : Int) (m : Nat) (o : Nat → Nat) (w' : World) : Prop :=
  ∃ ps N o', TS w' fp bt ps N m o' ∧ RS w' br way ps N o' ∧ Turn (fun k => TF bt w k ∨ RF br w k) w w' ∧ (∀ k, TF bt w' k ∨ RF br w' k → (TF bt w k ∨ RF br w k) ∨ w.heap.size ≤ k) ∧ (∀ k, k < w.heap.size → o' k = o k)
/-- A table and the document's, side by side. -/
structure Mt (w : World) (fp : Nat × Nat × Int) (bt br : Nat) (way : Int) (n : Nat) (o : Nat → Nat) (ps : List (Int × Int)) (N : Nat) : Prop where
  t : TS w fp bt ps N n o
  r : RS w br way ps N o
  way : fp.2.2 = way
  ne : bt ≠ br
  fn : ∀ k, fnfoot fp k → o k = 0
  big : n ≤ 1073741824
section
variable {w W0 W1 W2 W3 : World} {fp : Nat × Nat × Int} {bt br n N N' : Nat} {way : Int} {o o1 o2 : Nat → Nat} {ps ps' : List (Int × Int)}
theorem Mt.stay (h : Mt w fp bt br way n o ps N) (hs : Stay w W0) : Mt W0 fp bt br way n o ps N := ⟨h.t.stay hs, h.r.stay hs, h.way, h.ne, h.fn, h.big⟩
theorem Mt.mid (h : Mt W0 fp bt br way n o ps N) (tu : Turn (TF bt W0) W0 W1) (ho : ∀ k, k < W0.heap.size → o1 k = o k) : RS W1 br way ps N o1 :=
  h.r.frame tu (fun k _ hk ht => by have := (h.t.own k ht).1; have := h.ne; omega) ho
theorem Mt.done2 (h : Mt w fp bt br way n o ps N) (hs : Stay w W0) (hT1 : TS W1 fp bt ps' N' (n + 1) o1) (tu1 : Turn (TF bt W0) W0 W1) (g1 : ∀ k, TF bt W1 k → TF bt W0 k ∨ W0.heap.size ≤ k) (ho1 : ∀ k, k < W0.heap.size → o1 k = o k)
    (hR1 : RS W1 br way ps N o1) (hR2 : RS W2 br way ps' N' o2) (tu2 : Turn (RF br W1) W1 W2) (g2 : ∀ k, RF br W2 k → RF br W1 k ∨ W1.heap.size ≤ k) (ho2 : ∀ k, k < W1.heap.size → o2 k = o1 k) (hs3 : Stay W2 W3) : Done w fp bt br way (n + 1) o W3 := by
  have f1 := h.t.facts
  have f2 := h.r.facts
  have z0 := hs.size
  have z1 := tu1.size
  have z2 := tu2.size
  have e0t := fun k => TF.turn (bt := bt) (S := fun _ => False) (Turn.of_stay hs) f1.2.2.2.2.1 (fun e => e) k
  have e0r := fun k => RF.turn (br := br) (S := fun _ => False) (Turn.of_stay hs) f2.1 (fun e => e) k
  have nbr : ¬ TF bt W0 br := fun hk => by have := (h.t.stay hs).own br hk; have := f2.2.1; have := h.ne; omega
  have e1r := fun k => RF.turn (br := br) tu1 (by omega) nbr k
  have nbt : ¬ RF br W1 bt := fun hk => by
    have h1 := (hR1.own bt hk).1
    have h2 := ho1 bt (by omega)
    have := f1.2.2.2.2.2.1
    have := h.ne
    omega
  have e2t := fun k => TF.turn (bt := bt) tu2 (by omega) nbt k
  have e3t := fun k => TF.turn (bt := bt) (S := fun _ => False) (Turn.of_stay hs3) (by omega) (fun e => e) k
  have e3r := fun k => RF.turn (br := br) (S := fun _ => False) (Turn.of_stay hs3) (by omega) (fun e => e) k
  have hT2 : TS W2 fp bt ps' N' (n + 1) o2 := hT1.frame tu2 (fun k hk ho hr => by
    have := (hR1.own k hr).1
    have := h.ne
    omega) (fun k hk hr => by
    have h1 := (hR1.own k hr).1
    have h3 := (h.t.facts.2.2.2.2.2.2).lt k hk
    have h2 := ho1 k (by omega)
    have := h.fn k hk
    omega) ho2
  refine ⟨ps', N', o2, hT2.stay hs3, hR2.stay hs3, ?_, ?_, fun k hk => ?_⟩
  · refine Turn.trans (b := W2) (Turn.trans (b := W1) (Turn.trans (b := W0) (Turn.of_stay hs) (tu1.mono fun k _ hk => .inl ((e0t k).1 hk))) (tu2.mono fun k _ hk => .inr ((e0r k).1 ((e1r k).1 hk)))) (Turn.of_stay hs3)
  · rintro k (hk | hk)
    · rcases g1 k ((e2t k).1 ((e3t k).1 hk)) with g | g
      · exact .inl (.inl ((e0t k).1 g))
      · exact .inr (by omega)
    · rcases g2 k ((e3r k).1 hk) with g | g
      · exact .inl (.inr ((e0r k).1 ((e1r k).1 g)))
      · exact .inr (by omega)
  · rw [ho2 k (by omega), ho1 k (by omega)]
theorem Mt.same (h : Mt w fp bt br way n o ps N) (hs : Stay w W3) : Done w fp bt br way (n + 1) o W3 := by
  have e0t := fun k => TF.turn (bt := bt) (S := fun _ => False) (Turn.of_stay hs) h.t.facts.2.2.2.2.1 (fun e => e) k
  have e0r := fun k => RF.turn (br := br) (S := fun _ => False) (Turn.of_stay hs) h.r.facts.1 (fun e => e) k
  exact ⟨ps, N, o, (h.t.stay hs).more (by omega), h.r.stay hs, Turn.of_stay hs, fun k hk => .inl (hk.imp (e0t k).1 (e0r k).1), fun _ _ => rfl⟩
theorem lround_any (w : World) (on : Int) (hk : KeyOk on) : Calls Try.prog 24 #[.int .i64 on, .int .i64 2] w fun e w' => e = .returned (.int .i64 (on % 2)) ∧ w' = w := by
  have h := round_any w on 2 hk (by decide) (by decide)
  go_enter Try.func24, Try.ntmps24
  go_wp2_with fail
  refine h.mono ?_
  rintro e9 w9 ⟨rfl, hw⟩
  have hw' := hw.symm; subst hw'
  go_wp2
  go_ret
  exact ⟨rfl, rfl⟩

/-- What a step is asked. -/
structure Ask (w : World) (wb i bt br : Nat) (on key val leave : Int) : Prop where
  two : i < 2
  onE : on % 2 = (i : Int)
  ct : w.cell? ⟨wb, i, none⟩ = some (.pointer (some ⟨bt, 0, none⟩))
  cr : w.cell? ⟨wb, 2 + i, none⟩ = some (.pointer (some ⟨br, 0, none⟩))
  ok : KeyOk on ∧ KeyOk key ∧ KeyOk val ∧ KeyOk leave
/-- The world in which a step's body begins. -/
structure Beg (w V0 : World) (kind on key val leave : Int) : Prop where
  stay : Stay w V0
  box : V0.heap[w.heap.size]? = some (.cells #[.int .i64 kind, .int .i64 on, .int .i64 key, .int .i64 val, .int .i64 leave] 42 (0, 0))
theorem Beg.mk0 (w : World) (kind on key val leave : Int) (q : Nat) : Beg w ((w.alloc (.cells #[.int .i64 kind, .int .i64 on, .int .i64 key, .int .i64 val, .int .i64 leave] 42)).drewN q) kind on key val leave :=
  ⟨(Stay.new _ _).trans (Stay.drewN _ _), ((Stay.drewN _ q).block w.heap.size (by simp)).trans (heap_new w _)⟩
theorem Beg.cells {V0 V : World} {kind on key val leave : Int} (h : Beg w V0 kind on key val leave) (hb : V.heap[w.heap.size]? = V0.heap[w.heap.size]?) : V.cell? ⟨w.heap.size, 2, none⟩ = some (.int .i64 key) ∧ V.cell? ⟨w.heap.size, 3, none⟩ = some (.int .i64 val) ∧ V.cell? ⟨w.heap.size, 4, none⟩ = some (.int .i64 leave) ∧ w.heap.size < V.heap.size := by
  rw [h.box] at hb
  refine ⟨by simp [World.cell?, hb], by simp [World.cell?, hb], by simp [World.cell?, hb], (Array.getElem?_eq_some_iff.1 hb).1⟩
theorem Mt.notF (M : Mt w fp bt br way n o ps N) (hs : Stay w W0) : ¬ TF bt W0 w.heap.size ∧ ¬ RF br W0 w.heap.size := by
  constructor
  · intro h
    have := (M.t.own _ ((TF.turn (S := fun _ => False) (Turn.of_stay hs) M.t.facts.2.2.2.2.1 (fun e => e) _).1 h)).2.1
    omega
  · intro h
    have := (M.r.own _ ((RF.turn (S := fun _ => False) (Turn.of_stay hs) M.r.facts.1 (fun e => e) _).1 h)).2.1
    omega
theorem Mt.notR (M : Mt w fp bt br way n o ps N) (hs : Stay w W0) (tu1 : Turn (TF bt W0) W0 W1) : ¬ RF br W1 w.heap.size := by
  have f2 := M.r.facts
  have nbr : ¬ TF bt W0 br := fun hk => by have := (M.t.stay hs).own br hk; have := f2.2.1; have := M.ne; omega
  rw [RF.turn tu1 (by have := hs.size; omega) nbr]
  exact (M.notF hs).2
set_option maxRecDepth 100000 in
set_option maxHeartbeats 4000000 in
theorem step_put (M : Mt w fp bt br way n o ps N) {wb i : Nat} {on key val leave : Int} (A : Ask w wb i bt br on key val leave) :
    Calls Try.prog 9 #[.pointer (some ⟨wb, 0, none⟩), .agg #[.int .i64 1, .int .i64 on, .int .i64 key, .int .i64 val, .int .i64 leave]] w fun e w' => e = .returned (.bool true) ∧ Done w fp bt br way (n + 1) o w' := by
  have hro := fun W => lround_any W on A.ok.1
  have ct := A.ct
  have cr := A.cr
  have h2 := A.two
  have h2i : (i : Int) < 2 := by omega
  have hwl : wb < w.heap.size := World.block_lt_of_cell? w _ ct
  rw [A.onE] at hro
  go_enter Try.func9, Try.ntmps9
  go_wp2_with fail
  refine (hro _).mono ?_
  rintro e9 w9 ⟨rfl, hw⟩
  have hw' := hw.symm; subst hw'
  clear hro
  go_wp2_with fail
  go_quiet (fail)
  go_wp2_with fail
  obtain ⟨V0, hV0⟩ : ∃ V0, (w.alloc (.cells #[.int .i64 1, .int .i64 on, .int .i64 key, .int .i64 val, .int .i64 leave] 42)).drewN nq = V0 := ⟨_, rfl⟩
  have hB : Beg w V0 1 on key val leave := hV0 ▸ Beg.mk0 w 1 on key val leave nq
  rw [hV0]
  clear hV0 ct cr
  have M0 := M.stay hB.stay
  have hfa := M.t.facts
  refine (t_put M0.t M.way key val A.ok.2.1 (by have := M.big; omega)).mono ?_
  rintro e9 w1 ⟨rfl, hT1, tu1, g1⟩
  obtain ⟨k2, k3, k4, kl⟩ := hB.cells (tu1.block w.heap.size (Array.getElem?_eq_some_iff.1 hB.box).1 (M.notF hB.stay).1)
  have hR1 := M0.mid tu1 (fun k hk => lab_old (L := bt + 1) hk)
  have hrp := r_put hR1 key val A.ok.2.1 A.ok.2.2.1 (by have := M.big; omega) (by have := M.big; omega)
  have HD : Hid (∀ w2 o2 W3, RS w2 br way (putP way ps key val) (putN way ps N key) o2 → Turn (RF br w1) w1 w2 → (∀ k, RF br w2 k → RF br w1 k ∨ w1.heap.size ≤ k) → (∀ k, k < w1.heap.size → o2 k = lab V0 o (bt + 1) k) → Stay w2 W3 → Done w fp bt br way (n + 1) o W3) :=
    fun w2 o2 W3 hR2 tu2 g2 ho2 hs3 => M.done2 hB.stay hT1 tu1 g1 (fun k hk => lab_old hk) hR1 hR2 tu2 g2 ho2 hs3
  generalize getV ps (atN way ps key) = x at hrp ⊢
  generalize (atN way ps key).isSome = b at hrp ⊢
  clear hT1 tu1 g1 hR1 hfa M0 hB M A
  go_wp2_with fail
  refine hrp.mono ?_
  rintro e9 w2 ⟨rfl, hR2, tu2, g2⟩
  have HE : Hid (∀ W3, Stay w2 W3 → Done w fp bt br way (n + 1) o W3) := fun W3 hs3 => HD.out w2 _ W3 hR2 tu2 g2 (fun k hk => lab_old hk) hs3
  clear hR2 tu2 g2 hrp HD k2 k3 k4
  cases b
  all_goals
    go_wp2_with fail
    go_ret
    exact ⟨rfl, HE.out _ (Stay.refl _)⟩
set_option maxRecDepth 100000 in
set_option maxHeartbeats 4000000 in
theorem step_get (M : Mt w fp bt br way n o ps N) {wb i : Nat} {on key val leave : Int} (A : Ask w wb i bt br on key val leave) :
    Calls Try.prog 9 #[.pointer (some ⟨wb, 0, none⟩), .agg #[.int .i64 2, .int .i64 on, .int .i64 key, .int .i64 val, .int .i64 leave]] w fun e w' => e = .returned (.bool true) ∧ Done w fp bt br way (n + 1) o w' := by
  have hro := fun W => lround_any W on A.ok.1
  have ct := A.ct
  have cr := A.cr
  have h2 := A.two
  have h2i : (i : Int) < 2 := by omega
  have hwl : wb < w.heap.size := World.block_lt_of_cell? w _ ct
  rw [A.onE] at hro
  go_enter Try.func9, Try.ntmps9
  go_wp2_with fail
  refine (hro _).mono ?_
  rintro e9 w9 ⟨rfl, hw⟩
  have hw' := hw.symm; subst hw'
  clear hro
  go_wp2_with fail
  go_quiet (fail)
  go_wp2_with fail
  obtain ⟨V0, hV0⟩ : ∃ V0, (w.alloc (.cells #[.int .i64 2, .int .i64 on, .int .i64 key, .int .i64 val, .int .i64 leave] 42)).drewN nq = V0 := ⟨_, rfl⟩
  have hB : Beg w V0 2 on key val leave := hV0 ▸ Beg.mk0 w 2 on key val leave nq
  rw [hV0]
  clear hV0 ct cr
  have M0 := M.stay hB.stay
  have hfa := M.t.facts
  obtain ⟨k2, k3, k4, kl⟩ := hB.cells rfl
  refine (t_get M0.t M.way key A.ok.2.1).mono ?_
  rintro e9 w1 ⟨rfl, hs1⟩
  have k2' := hs1.cell k2
  have kl' : w.heap.size < w1.heap.size := by have := hs1.size; omega
  have hrp := r_get (M0.r.stay hs1) key A.ok.2.1 (by have := M.big; omega)
  have HD : Hid (∀ W3, Stay w1 W3 → Done w fp bt br way (n + 1) o W3) := fun W3 hs3 => M.same ((hB.stay.trans hs1).trans hs3)
  generalize getV ps (atN way ps key) = x at hrp ⊢
  generalize (atN way ps key).isSome = b at hrp ⊢
  clear hs1 hfa M0 hB M A k2 k3 k4 kl
  go_wp2_with fail
  refine hrp.mono ?_
  rintro e9 w2 ⟨rfl, hs2⟩
  have HE : Hid (∀ W3, Stay w2 W3 → Done w fp bt br way (n + 1) o W3) := fun W3 hs3 => HD.out W3 (hs2.trans hs3)
  clear hs2 hrp HD k2'
  cases b
  all_goals
    go_wp2_with fail
    go_ret
    exact ⟨rfl, HE.out _ (Stay.refl _)⟩
set_option maxRecDepth 100000 in
set_option maxHeartbeats 4000000 in
theorem step_take (M : Mt w fp bt br way n o ps N) {wb i : Nat} {on key val leave : Int} (A : Ask w wb i bt br on key val leave) :
    Calls Try.prog 9 #[.pointer (some ⟨wb, 0, none⟩), .agg #[.int .i64 3, .int .i64 on, .int .i64 key, .int .i64 val, .int .i64 leave]] w fun e w' => e = .returned (.bool true) ∧ Done w fp bt br way (n + 1) o w' := by
  have hro := fun W => lround_any W on A.ok.1
  have ct := A.ct
  have cr := A.cr
  have h2 := A.two
  have h2i : (i : Int) < 2 := by omega
  have hwl : wb < w.heap.size := World.block_lt_of_cell? w _ ct
  rw [A.onE] at hro
  go_enter Try.func9, Try.ntmps9
  go_wp2_with fail
  refine (hro _).mono ?_
  rintro e9 w9 ⟨rfl, hw⟩
  have hw' := hw.symm; subst hw'
  clear hro
  go_wp2_with fail
  go_quiet (fail)
  go_wp2_with fail
  obtain ⟨V0, hV0⟩ : ∃ V0, (w.alloc (.cells #[.int .i64 3, .int .i64 on, .int .i64 key, .int .i64 val, .int .i64 leave] 42)).drewN nq = V0 := ⟨_, rfl⟩
  have hB : Beg w V0 3 on key val leave := hV0 ▸ Beg.mk0 w 3 on key val leave nq
  rw [hV0]
  clear hV0 ct cr
  have M0 := M.stay hB.stay
  have hfa := M.t.facts
  obtain ⟨k2, k3, k4, kl⟩ := hB.cells rfl
  refine (t_take M0.t M.way key A.ok.2.1).mono ?_
  rintro e9 w1 ⟨rfl, hT1, tu1, g1⟩
  obtain ⟨k2', k3', k4', kl'⟩ := hB.cells (tu1.block w.heap.size (Array.getElem?_eq_some_iff.1 hB.box).1 (M.notF hB.stay).1)
  have hR1 := M0.mid (o1 := o) tu1 (fun k hk => rfl)
  have hrp := r_take hR1 key A.ok.2.1 (by have := M.big; omega)
  have HD : Hid (∀ w2 o2 W3, RS w2 br way (takeP way ps key) N o2 → Turn (RF br w1) w1 w2 → (∀ k, RF br w2 k → RF br w1 k ∨ w1.heap.size ≤ k) → (∀ k, k < w1.heap.size → o2 k = o k) → Stay w2 W3 → Done w fp bt br way (n + 1) o W3) :=
    fun w2 o2 W3 hR2 tu2 g2 ho2 hs3 => M.done2 hB.stay (hT1.more (Nat.le_succ n)) tu1 g1 (fun k hk => rfl) hR1 hR2 tu2 g2 ho2 hs3
  generalize getV ps (atN way ps key) = x at hrp ⊢
  generalize (atN way ps key).isSome = b at hrp ⊢
  clear hT1 tu1 g1 hR1 hfa M0 hB M A k2 k3 k4 kl k3' k4'
  go_wp2_with fail
  refine hrp.mono ?_
  rintro e9 w2 ⟨rfl, hR2, tu2, g2⟩
  have HE : Hid (∀ W3, Stay w2 W3 → Done w fp bt br way (n + 1) o W3) := fun W3 hs3 => HD.out w2 _ W3 hR2 tu2 g2 (fun k hk => lab_old hk) hs3
  clear hR2 tu2 g2 hrp HD k2'
  cases b
  all_goals
    go_wp2_with fail
    go_ret
    exact ⟨rfl, HE.out _ (Stay.refl _)⟩
set_option maxRecDepth 100000 in
set_option maxHeartbeats 4000000 in
theorem step_size (M : Mt w fp bt br way n o ps N) {wb i : Nat} {on key val leave : Int} (A : Ask w wb i bt br on key val leave) :
    Calls Try.prog 9 #[.pointer (some ⟨wb, 0, none⟩), .agg #[.int .i64 4, .int .i64 on, .int .i64 key, .int .i64 val, .int .i64 leave]] w fun e w' => e = .returned (.bool true) ∧ Done w fp bt br way (n + 1) o w' := by
  have hro := fun W => lround_any W on A.ok.1
  have ct := A.ct
  have cr := A.cr
  have h2 := A.two
  have h2i : (i : Int) < 2 := by omega
  have hwl : wb < w.heap.size := World.block_lt_of_cell? w _ ct
  rw [A.onE] at hro
  go_enter Try.func9, Try.ntmps9
  go_wp2_with fail
  refine (hro _).mono ?_
  rintro e9 w9 ⟨rfl, hw⟩
  have hw' := hw.symm; subst hw'
  clear hro
  go_wp2_with fail
  go_quiet (fail)
  go_wp2_with fail
  obtain ⟨V0, hV0⟩ : ∃ V0, (w.alloc (.cells #[.int .i64 4, .int .i64 on, .int .i64 key, .int .i64 val, .int .i64 leave] 42)).drewN nq = V0 := ⟨_, rfl⟩
  have hB : Beg w V0 4 on key val leave := hV0 ▸ Beg.mk0 w 4 on key val leave nq
  rw [hV0]
  clear hV0 ct cr
  have M0 := M.stay hB.stay
  have hln := fun W (hW : Stay V0 W) => t_len (M0.t.stay hW)
  have hsz := fun W (hW : Stay V0 W) => t_size (M0.t.stay hW)
  have hln := fun q => hln _ (Stay.drewN V0 q)
  have hsz := fun q => hsz _ (Stay.drewN V0 q)
  obtain ⟨ra, rc, r1, r2⟩ := r_cells M0.r
  have hbl : br < V0.heap.size := World.block_lt_of_cell? V0 _ r1
  have HE : Hid (∀ W3, Stay V0 W3 → Done w fp bt br way (n + 1) o W3) := fun W3 hs3 => M.same (hB.stay.trans hs3)
  clear M0 hB M A
  generalize ps.length = pl at *
  go_quiet (first | (go_at_call 15; exact Calls.quiet_of_same (hln _)) | (go_at_call 16; exact Calls.quiet_of_same (hsz _)))
  go_wp2_with fail
  go_ret
  exact ⟨rfl, HE.out _ (Stay.drewN _ _)⟩
end
end Go.Proofs.Ytdnophgcdnghkaa.I
