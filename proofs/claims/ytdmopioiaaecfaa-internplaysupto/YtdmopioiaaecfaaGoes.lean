/- goes: All tells the texts of the table of the document, also gone over once more. -/
import Derived.Test.YtdmopioiaaecfaaIterN
import Derived.Test.YtdmopioiaaecfaaNothing
import Derived.Test.YtdmopioiaaecfaaQuietRound
import Derived.Deep.QuietTactic
import Derived.BigQuiet
namespace Go.Proofs.Ytdmopioiaaecfaa
open Go.RowKit Go.Maps Go.Shelf
attribute [local go_sem] Oper.semAt_some

/-- The boxes of 'goes', behind some rounds. -/
def GI (w : World) (bt br Bl Bq Ba Bn : Nat) (leave n : Int) (q : Bool) (W : World) : Prop :=
  ((Boxed W Bn 3 (.int .i64 n) ∧ Boxed W Bq 4 (.bool q)) ∧ (Boxed W w.heap.size 26 (.pointer (some ⟨br, 0, none⟩)) ∧ (Boxed W Bl 3 (.int .i64 leave) ∧ Boxed W Ba 23 (.pointer (some ⟨bt, 0, none⟩))))) ∧ Below w.heap.size w W

theorem gi_own (w : World) (bt br Bl Bq Ba Bn : Nat) (leave : Int) (f : List Nat → Int) (q : Bool) (D : Nat) (hD : w.heap.size ≤ D) : OwnFrom D (fun pre W => GI w bt br Bl Bq Ba Bn leave (f pre) q W) :=
  OwnFrom.and (OwnFrom.and (OwnFrom.and (Own.from (boxed_own Bn 3 (fun pre => Value.int .i64 (f pre))) _) (Own.from (boxed_own Bq 4 (fun _ => Value.bool q)) _)) (OwnFrom.and (Own.from (boxed_own w.heap.size 26 (fun _ => Value.pointer (some ⟨br, 0, none⟩))) _) (OwnFrom.and (Own.from (boxed_own Bl 3 (fun _ => Value.int .i64 leave)) _) (Own.from (boxed_own Ba 23 (fun _ => Value.pointer (some ⟨bt, 0, none⟩))) _)))) (ownFrom_below (Nat.le_refl _) hD)

theorem GI.set {w : World} {bt br Bl Bq Ba Bn : Nat} {leave n : Int} {q : Bool} {W : World} (h : GI w bt br Bl Bq Ba Bn leave n q W) (h0 : Ba ≠ Bn) (h1 : Bl ≠ Bn) (h2 : Bq ≠ Bn) (h3 : w.heap.size ≠ Bn) (h4 : w.heap.size ≤ Bn) (nq : Nat) (n' : Int) :
    GI w bt br Bl Bq Ba Bn leave n' q ((W.drewN nq).setCell ⟨Bn, 0, none⟩ (.int .i64 n')) := by
  obtain ⟨⟨⟨a1, a2⟩, a3, a4, a5⟩, hB⟩ := h
  have d5 : Boxed (W.drewN nq) Ba 23 (.pointer (some ⟨bt, 0, none⟩)) := a5
  have d1 : Boxed (W.drewN nq) Bn 3 (.int .i64 n) := a1
  have d2 : Boxed (W.drewN nq) Bq 4 (.bool q) := a2
  have d3 : Boxed (W.drewN nq) w.heap.size 26 (.pointer (some ⟨br, 0, none⟩)) := a3
  have d4 : Boxed (W.drewN nq) Bl 3 (.int .i64 leave) := a4
  have hB2 : Below w.heap.size w (W.drewN nq) := ⟨hB.os, hB.tape, hB.output, hB.size, hB.block⟩
  exact ⟨⟨⟨d1.set _, d2.other h2 _⟩, d3.other h3 _, d4.other h1 _, d5.other h0 _⟩, hB2.setCell (p := ⟨Bn, 0, none⟩) h4 _⟩

theorem own_block (B D : Nat) (o : Obj) (hD : D < B) : OwnFrom B (fun (_ : List Nat) W => W.heap[D]? = some o) := fun _ W _ _ hs hg hr =>
  (hg.block D (Array.getElem?_eq_some_iff.1 hs).1 (fun e => by have := (hr D e.symm).1; omega)).trans hs

theorem keepsFrom_set (D : Nat) (W : World) (nq Bn : Nat) (v : Value) : KeepsFrom D W ((W.drewN nq).setCell ⟨Bn, 0, none⟩ v) :=
  have h := KeepsOthers.setCell (W.drewN nq) ⟨Bn, 0, none⟩ v
  (⟨h.size, h.same⟩ : KeepsOthers W _).from D

theorem krow_set {g Bn : Nat} (h : g ≠ Bn) (N nq : Nat) {W : World} (v : Value) : KRow g N W ((W.drewN nq).setCell ⟨Bn, 0, none⟩ v) := fun j _ =>
  World.cell?_of_block (a := ⟨g, j, none⟩) (Below.heap_setCell (W.drewN nq) _ _ _ h)

/-- The end of a function with two loops over functions. -/
theorem gi_end (W : World) (D D2 Bq : Nat) (w : World) (h1 : W.heap[D]? = some (.deferred (some []))) (h2 : W.heap[D2]? = some (.deferred (some []))) (hne : D ≠ D2) {v : Value} (hc : W.cell? ⟨Bq, 0, none⟩ = some v) (hB : Below w.heap.size w W) (hd : w.heap.size ≤ D) (hd2 : w.heap.size ≤ D2) :
    W.heap[D2]? = some (.deferred (some [])) ∧ (W.putObj D2 (.deferred none)).heap[D]? = some (.deferred (some [])) ∧ ((W.putObj D2 (.deferred none)).putObj D (.deferred none)).cell? ⟨Bq, 0, none⟩ = some v ∧ Below w.heap.size w ((W.putObj D2 (.deferred none)).putObj D (.deferred none)) := by
  have t1 := Turn.putObj W D2 (.deferred none)
  have t2 := Turn.putObj (W.putObj D2 (.deferred none)) D (.deferred none)
  have k1 : (W.putObj D2 (.deferred none)).heap[D]? = some (.deferred (some [])) := (t1.block D (Array.getElem?_eq_some_iff.1 h1).1 hne).trans h1
  have hb1 : Bq ≠ D2 := fun e => by subst e; simp [World.cell?, h2] at hc
  have hb2 : Bq ≠ D := fun e => by subst e; simp [World.cell?, h1] at hc
  refine ⟨h2, k1, t2.cell (t1.cell hc hb1) hb2, ?_⟩
  have hs := hB.size
  have b1 := hB.trans (t1.below hs (fun k e => by omega))
  exact b1.trans (t2.below b1.size (fun k e => by omega))

/-- What stands behind a piece of code that ends in its plain way alone. -/
def plainly (Q : Exit → Act → World → Prop) : Exit → Act → World → Prop
  | .normal, a, w => Q .normal a w
  | _, _, _ => False

theorem wp_plainly {F : Fence} {n : Nat} {P : Program} {c : Code} {Q : Exit → Act → World → Prop} {a : Act} {w : World} (h : c.wpIn F n P (plainly Q) a w) : c.wpIn F n P Q a w :=
  wpIn_mono h (fun e a w h => by cases e <;> first | exact h | exact h.elim)

set_option maxRecDepth 100000 in
set_option maxHeartbeats 2000000 in
theorem goes_yes (w : World) (bt bm g cap br : Nat) (sv : Value) (ts : List ByteArray) (leave : Int) (hT : Tab w bt bm g cap ts) (hR : RTab w br sv ts) (hl1 : -9223372036854775808 ≤ leave) (hl2 : leave ≤ 9223372036854775807) :
    CallsIn Fence.wide 5 Try.prog 15 #[.pointer (some ⟨bt, 0, none⟩), .pointer (some ⟨br, 0, none⟩), .int .i64 leave] w fun e w' => e = .returned (.bool true) ∧ Below w.heap.size w w' := by
  have hfn := eql_func
  have H : Hid (Tab w bt bm g cap ts ∧ RTab w br sv ts) := ⟨hT, hR⟩
  have hlt := hT.lt
  have hrl := hR.lt
  clear hT hR
  refine callsIn_of_wp_marks Try.func15 rfl trivial ?_ rfl
  simp only [Try.ntmps15, List.size_toArray, List.length_cons, List.length_nil, Nat.reduceAdd, Nat.reduceSub, Array.replicate_succ, Array.replicate_zero, List.push_toArray, List.append_toArray, List.nil_append, List.cons_append]
  gi_wp2_with (refine ⟨trivial, ?_⟩; gi_at_call 21; refine CallsIn.mono (callsIn_wide.2 (all_any _ _)) ?_; rintro e w' ⟨rfl, rfl⟩)
  clear hfn
  obtain ⟨W0, hW0⟩ : ∃ W0, (((((w.alloc (.cells #[.pointer (some ⟨br, 0, none⟩)] 26)).alloc (.cells #[.int .i64 leave] 3)).alloc (.cells #[.bool false] 4)).alloc (.cells #[.pointer (some ⟨bt, 0, none⟩)] 23)).alloc (.cells #[.int .i64 0] 3)) = W0 := ⟨_, rfl⟩
  have hsz : W0.heap.size = w.heap.size + 5 := by rw [← hW0]; simp
  have hB0 : Below w.heap.size w W0 := by
    rw [← hW0]; exact (((((Below.refl _ w).alloc (Nat.le_refl _) _).alloc (by simp) _).alloc (by simp; omega) _).alloc (by simp; omega) _).alloc (by simp; omega) _
  have b0 : Boxed W0 w.heap.size 26 (.pointer (some ⟨br, 0, none⟩)) := by rw [← hW0]; exact ((((Boxed.new w 26 _).alloc _).alloc _).alloc _).alloc _
  have b1 : Boxed W0 (w.heap.size + 1) 3 (.int .i64 leave) := by
    rw [← hW0]; have := (((Boxed.new (w.alloc (.cells #[.pointer (some ⟨br, 0, none⟩)] 26)) 3 (.int .i64 leave)).alloc (.cells #[.bool false] 4)).alloc (.cells #[.pointer (some ⟨bt, 0, none⟩)] 23)).alloc (.cells #[.int .i64 0] 3)
    simpa only [World.size_alloc] using this
  have b2 : Boxed W0 (w.heap.size + 1 + 1) 4 (.bool false) := by
    rw [← hW0]; have := ((Boxed.new ((w.alloc (.cells #[.pointer (some ⟨br, 0, none⟩)] 26)).alloc (.cells #[.int .i64 leave] 3)) 4 (.bool false)).alloc (.cells #[.pointer (some ⟨bt, 0, none⟩)] 23)).alloc (.cells #[.int .i64 0] 3)
    simpa only [World.size_alloc] using this
  have b3 : Boxed W0 (w.heap.size + 1 + 1 + 1) 23 (.pointer (some ⟨bt, 0, none⟩)) := by
    rw [← hW0]; have := (Boxed.new (((w.alloc (.cells #[.pointer (some ⟨br, 0, none⟩)] 26)).alloc (.cells #[.int .i64 leave] 3)).alloc (.cells #[.bool false] 4)) 23 (.pointer (some ⟨bt, 0, none⟩))).alloc (.cells #[.int .i64 0] 3)
    simpa only [World.size_alloc] using this
  have b4 : Boxed W0 (w.heap.size + 1 + 1 + 1 + 1) 3 (.int .i64 0) := by
    rw [← hW0]; have := Boxed.new ((((w.alloc (.cells #[.pointer (some ⟨br, 0, none⟩)] 26)).alloc (.cells #[.int .i64 leave] 3)).alloc (.cells #[.bool false] 4)).alloc (.cells #[.pointer (some ⟨bt, 0, none⟩)] 23)) 3 (.int .i64 0)
    simpa only [World.size_alloc] using this
  rw [hW0]
  clear hW0
  obtain ⟨Bn, hBn⟩ : ∃ Bn, w.heap.size + 1 + 1 + 1 + 1 = Bn := ⟨_, rfl⟩
  rw [hBn] at b4 ⊢
  obtain ⟨Ba, hBa⟩ : ∃ Ba, w.heap.size + 1 + 1 + 1 = Ba := ⟨_, rfl⟩
  rw [hBa] at b3 ⊢
  obtain ⟨Bq, hBq⟩ : ∃ Bq, w.heap.size + 1 + 1 = Bq := ⟨_, rfl⟩
  rw [hBq] at b2 ⊢
  obtain ⟨Bl, hBl⟩ : ∃ Bl, w.heap.size + 1 = Bl := ⟨_, rfl⟩
  rw [hBl] at b1 ⊢
  have hBs : Hid (Bl = w.heap.size + 1 ∧ Bq = w.heap.size + 2 ∧ Ba = w.heap.size + 3 ∧ Bn = w.heap.size + 4) := ⟨by omega, by omega, by omega, by omega⟩
  clear hBn hBa hBq hBl
  have hT0 : Tab W0 bt bm g cap ts := H.out.1.kept (Turn.of_below hB0) (by rintro k (rfl | rfl | rfl) <;> omega)
  refine wpIn_rangeFunc_ownG (α := Nat) rfl (by decide) (gf := 45) (lb := #[.pointer (some ⟨Ba, 0, none⟩)]) rfl trivial (enters_of Try.func45 (by kernel_rfl) rfl)
    (allN_stops (5 - 1) (by decide) Ba bt bm g cap ts W0 b3.cell hT0) krow_t (krow_b (by omega)) (Below.refl _ _) (fun _ => rfl)
    (fun pre W => (leave ≤ 0 ∨ (pre.length : Int) < leave) ∧ GI w bt br Bl Bq Ba Bn leave pre.length false W) (fun c pre W => (c = .exit 0 ∧ ((pre.length : Int) = leave ∧ 0 < leave) ∧ GI w bt br Bl Bq Ba Bn leave pre.length false W) ∨ (c = .ret ∧ ∃ q x, pre = q ++ [x] ∧ x ≠ q.length))
    (OwnFrom.and (fun _ _ _ _ hs _ _ => hs) (gi_own w bt br Bl Bq Ba Bn leave (fun pre => (pre.length : Int)) false _ (by omega)))
    (fun c s A B row hs hg hr => hs.imp (fun h => ⟨h.1, h.2.1, gi_own w bt br Bl Bq Ba Bn leave (fun pre => (pre.length : Int)) false _ (by omega) s A B row h.2.2 hg hr⟩) id)
    ⟨by simp; omega, ⟨⟨b4, b2⟩, b0, b1, b3⟩, hB0⟩
    (fun x => { tmps := #[(.pointer (some ⟨bt, 0, none⟩)), (.pointer (some ⟨br, 0, none⟩)), (.int .i64 leave), undef, (.pointer (some ⟨w.heap.size, 0, none⟩)), (.pointer (some ⟨Bl, 0, none⟩)), (.pointer (some ⟨Bq, 0, none⟩)), (.func (.func 45) #[] #[.pointer (some ⟨Ba, 0, none⟩)]), (.pointer (some ⟨Bn, 0, none⟩)), (.int .i64 (x : Int)), (.string (ts[x]?.getD ⟨#[]⟩)), (.pointer (some ⟨bt, 0, none⟩)), (.func (.func 45) #[] #[.pointer (some ⟨Ba, 0, none⟩)]), (.func (.func 45) #[] #[.pointer (some ⟨Ba, 0, none⟩)]), (.bool false), (.func (.func 45) #[] #[.pointer (some ⟨Ba, 0, none⟩)]), (.int .i64 (x : Int)), (.string (ts[x]?.getD ⟨#[]⟩)), undef, undef, undef, undef, undef, undef, undef, undef, undef, undef, undef, undef, undef, undef, undef, undef, undef, undef, undef, undef, undef, undef, undef, undef, undef, undef, undef, undef, undef, undef, undef, undef, undef, undef, undef, undef, undef, undef, undef, undef, undef, undef, undef, undef, undef, undef, undef, undef, undef, undef, undef, undef, undef, undef], defers := [] }) ?assign ?body ?done ?stop
  case assign =>
    intro l x W K hK
    dsimp only [encsN]
    gi_wp2
    exact hK
  case body =>
    rintro l pre x W ⟨hpure, ⟨⟨hn, hq⟩, hr, hlv, hba⟩, hB⟩ hm
    have HPu : Hid (leave ≤ 0 ∨ (pre.length : Int) < leave) := hpure
    clear hpure
    have hRW := H.out.2.below hB
    have c0 := hRW.c0
    obtain ⟨ra, rcap, hsv, hmax, rb, hra, hrc⟩ := hRW.slice
    have hrl := fun W' (h : RTab W' br sv ts) => rlen_yes h
    obtain rfl := hra (by omega)
    rw [hsv] at c0
    have cn := hn.cell
    have fn := hn.frozen
    have cq := hq.cell
    have fq := hq.frozen
    have cr := hr.cell
    have cl := hlv.cell
    have hmb : ((pre.length : Nat) : Int) < (ts.length : Int) := by omega
    by_cases hx : x = pre.length
    · subst hx
      have hct : W.cell? ⟨rb, pre.length, none⟩ = some (.string (ts[pre.length]?.getD ⟨#[]⟩)) := by rw [hrc _ hm]; simp [hm]
      generalize ts[pre.length]?.getD ⟨#[]⟩ = s at hct ⊢
      have hge : decide (ts.length ≤ pre.length) = false := by simp; omega
      have hrlen : ∀ q, Calls Try.prog 14 #[.pointer (some ⟨br, 0, none⟩)] (W.drewN q) fun e w' => e = .returned (.int .i64 ts.length) ∧ w' = W.drewN q := fun q => rlen_yes (hRW.kept (Turn.drewN (fun _ => False) W q) (fun _ _ e => e))
      have HX : Hid (GI w bt br Bl Bq Ba Bn leave pre.length false W) := ⟨⟨⟨hn, hq⟩, hr, hlv, hba⟩, hB⟩
      clear hrl hRW hra hrc hn hq hr hlv hba hB b0 b1 b2 b3 b4 hB0 hT0
      have hfw : ∀ f, Fence.wide.fn f := fun _ => trivial
      gi_wp2
      refine round_quiet_lit (F := Fence.wide) rfl (by kernel_rfl) (by kernel_rfl) (by kernel_rfl) ?_
      repeat (gi_big_quiet_step (first | (gi_at_call 14; refine CallsIn.quiet_of_same (callsIn_wide.2 (hrlen _)))))
      refine wpQuietIn_nil ?_
      intro _ hw'
      obtain ⟨nq, hw''⟩ := hw'
      subst hw''
      clear hmb hge hct c0 cr hfw
      have hna : Ba ≠ Bn := by obtain ⟨e1, e2, e3, e4⟩ := hBs.out; omega
      have hne : Bl ≠ Bn ∧ Bq ≠ Bn ∧ w.heap.size ≠ Bn ∧ g ≠ Bn ∧ w.heap.size ≤ Bn := by obtain ⟨e1, e2, e3, e4⟩ := hBs.out; omega
      have hcl2 : ∀ v, ((W.drewN nq).setCell ⟨Bn, 0, none⟩ v).cell? ⟨Bl, 0, none⟩ = some (.int .i64 leave) := fun v => (World.cell?_of_block (a := ⟨Bl, 0, none⟩) (Below.heap_setCell _ _ _ _ hne.1)).trans cl
      have HF : Hid (GI w bt br Bl Bq Ba Bn leave ((pre.length : Int) + 1) false ((W.drewN nq).setCell ⟨Bn, 0, none⟩ (.int .i64 ((pre.length : Int) + 1))) ∧ KeepsFrom W0.heap.size W ((W.drewN nq).setCell ⟨Bn, 0, none⟩ (.int .i64 ((pre.length : Int) + 1))) ∧ KRow g ts.length W ((W.drewN nq).setCell ⟨Bn, 0, none⟩ (.int .i64 ((pre.length : Int) + 1)))) := ⟨HX.out.set hna hne.1 hne.2.1 hne.2.2.1 hne.2.2.2.2 nq _, keepsFrom_set _ _ _ _ _, krow_set hne.2.2.2.1 _ _ _⟩
      clear hne hna cl
      by_cases hlv2 : ((pre.length : Nat) : Int) + 1 = leave
      · have hbe : (((pre.length : Nat) : Int) + 1 == leave) = true := by simpa using hlv2
        have HLv : Hid (((pre.length : Nat) : Int) + 1 = leave) := hlv2
        clear hlv2
        gi_wp2
        exact ⟨HF.out.2.1, .inl ⟨rfl, ⟨by simpa using HLv.out, by have h9 := HLv.out; omega⟩, by simpa using HF.out.1⟩⟩
      · have hbe : (((pre.length : Nat) : Int) + 1 == leave) = false := by simpa using hlv2
        have hL : leave ≤ 0 ∨ (((pre ++ [pre.length]).length : Nat) : Int) < leave := by have h1 := HPu.out; rw [List.length_append, List.length_singleton]; unfold Hid at *; omega
        have HLv : Hid (leave ≤ 0 ∨ (((pre ++ [pre.length]).length : Nat) : Int) < leave) := hL
        clear hL
        clear hlv2
        gi_wp2
        exact ⟨HF.out.2.1, HF.out.2.2, HLv.out, by simpa using HF.out.1⟩
    · have hkne : ((x : Int) != ((pre.length : Nat) : Int)) = true := by simp; omega
      have hge : decide (ts.length ≤ pre.length) = false := by simp; omega
      have hrlen : ∀ q, Calls Try.prog 14 #[.pointer (some ⟨br, 0, none⟩)] (W.drewN q) fun e w' => e = .returned (.int .i64 ts.length) ∧ w' = W.drewN q := fun q => rlen_yes (hRW.kept (Turn.drewN (fun _ => False) W q) (fun _ _ e => e))
      have HX : Hid (x ≠ pre.length) := hx
      generalize ts[x]?.getD ⟨#[]⟩ = s
      have hfw : ∀ f, Fence.wide.fn f := fun _ => trivial
      clear hrl hRW hra hrc hn hq hr hlv hba hB b0 b1 b2 b3 b4 hB0 hT0 hx
      gi_wp2
      refine round_quiet_lit (F := Fence.wide) rfl (by kernel_rfl) (by kernel_rfl) (by kernel_rfl) ?_
      repeat (gi_big_quiet_step (first | (gi_at_call 14; refine CallsIn.quiet_of_same (callsIn_wide.2 (hrlen _)))))
      refine wpQuietIn_nil ?_
      intro _ hw'
      obtain ⟨nq, hw''⟩ := hw'
      subst hw''
      gi_wp2
      exact ⟨keepsFrom_set _ _ _ _ _, .inr ⟨rfl, pre, x, rfl, HX.out⟩⟩
  case' done =>
    rintro D ys W hD rfl ⟨hpure, hG⟩ hK
    rw [List.length_range] at hpure hG
    obtain ⟨n, hn⟩ : ∃ n : Int, n = (ts.length : Int) := ⟨_, rfl⟩
    rw [← hn] at hG
    have hcase : (leave ≤ 0 ∧ n = (ts.length : Int)) ∨ (0 < leave ∧ n = min leave (ts.length : Int)) := by omega
    clear hn hpure
  case' stop =>
    rintro D c pre W hD hpre hix hK
    obtain ⟨rfl, ⟨hpl, hpos⟩, hG⟩ : c = .exit 0 ∧ ((pre.length : Int) = leave ∧ 0 < leave) ∧ GI w bt br Bl Bq Ba Bn leave pre.length false W := by
      rcases hix with h | ⟨_, q, x, e1, e2⟩
      · exact h
      · obtain ⟨k, _, rfl⟩ := hpre
        exfalso
        have hl := congrArg List.length e1
        rw [List.length_range, List.length_append, List.length_singleton] at hl
        subst hl
        rw [List.range_succ] at e1
        have := List.append_inj_right e1 (by simp)
        simp at this
        omega
    obtain ⟨k, hk, rfl⟩ := hpre
    rw [List.length_range] at hpl hG
    obtain ⟨n, hn⟩ : ∃ n : Int, n = (k : Int) := ⟨_, rfl⟩
    rw [← hn] at hG
    have hcase : (leave ≤ 0 ∧ n = (ts.length : Int)) ∨ (0 < leave ∧ n = min leave (ts.length : Int)) := by omega
    clear hn hpl hix hk hpos
  all_goals
    have hRW := H.out.2.below hG.2
    have hrlen : ∀ q, Calls Try.prog 14 #[.pointer (some ⟨br, 0, none⟩)] (W.drewN q) fun e w' => e = .returned (.int .i64 ts.length) ∧ w' = W.drewN q := fun q => rlen_yes (hRW.kept (Turn.drewN (fun _ => False) W q) (fun _ _ e => e))
    have hmax : (ts.length : Int) ≤ 9223372036854775807 := by obtain ⟨_, _, _, h, _⟩ := hRW.slice; omega
    have cn := hG.1.1.1.cell
    have fn := hG.1.1.1.frozen
    have cr := hG.1.2.1.cell
    have cl := hG.1.2.2.1.cell
    have HG : Hid (GI w bt br Bl Bq Ba Bn leave n false W ∧ W.heap[D]? = some (.deferred (some []))) := ⟨hG, hK⟩
    have hfw : ∀ f, Fence.wide.fn f := fun _ => trivial
    clear hG hK hRW b0 b1 b2 b3 b4 hB0 hT0
    rcases hcase with ⟨hc1, hc2⟩ | ⟨hc1, hc2⟩
    · have g1 : decide (0 < leave) = false := by simpa using hc1
      have g2 : (n != (ts.length : Int)) = false := by simpa using hc2
      have HC : Hid (n = (ts.length : Int)) := hc2
      clear hc2
      gi_wp2
      gi_big_quiet_th (first | (gi_at_call 14; refine CallsIn.quiet_of_same (callsIn_wide.2 (hrlen _))))
      clear g1 g2 hc1 cr cl hrlen
      gi_wp2
      obtain ⟨W1, hW1⟩ : ∃ W1, (W.drewN nq).setCell ⟨Bn, 0, none⟩ (.int .i64 0) = W1 := ⟨_, rfl⟩
      have hG1 : GI w bt br Bl Bq Ba Bn leave ((([] : List Nat).length : Nat) : Int) false W1 := by
        obtain ⟨e1, e2, e3, e4⟩ := hBs.out
        rw [← hW1]; exact HG.out.1.set (by omega) (by omega) (by omega) (by omega) (by omega) nq 0
      have hK1 : W1.heap[D]? = some (.deferred (some [])) := by
        rw [← hW1]; exact (KeepsOthers.setCell (W.drewN nq) ⟨Bn, 0, none⟩ (.int .i64 0)).same D _ HG.out.2 rfl
      rw [hW1]
      clear hW1 HG cn fn
      have hDl : D < W1.heap.size := (Array.getElem?_eq_some_iff.1 hK1).1
      have hs1 := hG1.2.size
      have hT1 : Tab W1 bt bm g cap ts := H.out.1.kept (Turn.of_below hG1.2) (by rintro k (rfl | rfl | rfl) <;> omega)
      refine wpIn_rangeFunc_ownG (α := Nat) rfl (by decide) (gf := 45) (lb := #[.pointer (some ⟨Ba, 0, none⟩)]) rfl trivial (enters_of Try.func45 (by kernel_rfl) rfl)
        (allN_stops (5 - 1) (by decide) Ba bt bm g cap ts W1 hG1.1.2.2.2.cell hT1) krow_t (krow_b (by omega)) (Below.refl _ _) (fun _ => rfl)
        (fun pre W => GI w bt br Bl Bq Ba Bn leave pre.length false W ∧ W.heap[D]? = some (.deferred (some []))) (fun _ _ _ => False)
        (OwnFrom.and (gi_own w bt br Bl Bq Ba Bn leave (fun pre => (pre.length : Int)) false _ (by omega)) (own_block _ D _ hDl))
        (fun _ _ _ _ _ hs _ _ => hs)
        ⟨hG1, hK1⟩ (fun x => { tmps := #[(.pointer (some ⟨bt, 0, none⟩)), (.pointer (some ⟨br, 0, none⟩)), (.int .i64 leave), undef, (.pointer (some ⟨w.heap.size, 0, none⟩)), (.pointer (some ⟨Bl, 0, none⟩)), (.pointer (some ⟨Bq, 0, none⟩)), (.func (.func 45) #[] #[.pointer (some ⟨Ba, 0, none⟩)]), (.pointer (some ⟨Bn, 0, none⟩)), undef, undef, (.pointer (some ⟨bt, 0, none⟩)), (.func (.func 45) #[] #[.pointer (some ⟨Ba, 0, none⟩)]), (.func (.func 45) #[] #[.pointer (some ⟨Ba, 0, none⟩)]), (.bool false), (.func (.func 45) #[] #[.pointer (some ⟨Ba, 0, none⟩)]), undef, undef, undef, undef, undef, undef, undef, undef, undef, undef, undef, undef, undef, undef, undef, undef, undef, undef, undef, undef, undef, undef, undef, undef, undef, undef, undef, (.int .i64 leave), (.bool false), (.bool false), undef, undef, undef, undef, undef, undef, (.bool false), (.bool false), (.int .i64 leave), (.bool true), (.bool true), (.int .i64 n), (.pointer (some ⟨br, 0, none⟩)), (.int .i64 (ts.length : Int)), (.bool false), (.bool false), (.bool false), (.func (.func 45) #[] #[.pointer (some ⟨Ba, 0, none⟩)]), (.int .i64 (x : Int)), (.string (ts[x]?.getD ⟨#[]⟩)), undef, undef, undef, undef, undef, undef], defers := [] }) ?assign2 ?body2 ?done2 ?stop2
      case assign2 =>
        intro l x W K hK
        dsimp only [encsN]
        gi_wp2
        exact hK
      case body2 =>
        rintro l pre x W ⟨hG2, hK2⟩ hm
        have cn := hG2.1.1.1.cell
        have fn := hG2.1.1.1.frozen
        have hmb : (pre.length : Int) < 9223372036854775807 := by omega
        have HF : Hid (GI w bt br Bl Bq Ba Bn leave ((pre.length : Int) + 1) false (W.setCell ⟨Bn, 0, none⟩ (.int .i64 ((pre.length : Int) + 1))) ∧ (W.setCell ⟨Bn, 0, none⟩ (.int .i64 ((pre.length : Int) + 1))).heap[D]? = some (.deferred (some [])) ∧ KeepsFrom W1.heap.size W (W.setCell ⟨Bn, 0, none⟩ (.int .i64 ((pre.length : Int) + 1))) ∧ KRow g ts.length W (W.setCell ⟨Bn, 0, none⟩ (.int .i64 ((pre.length : Int) + 1)))) := by
          obtain ⟨e1, e2, e3, e4⟩ := hBs.out
          exact ⟨hG2.set (by omega) (by omega) (by omega) (by omega) (by omega) 0 _, (KeepsOthers.setCell W ⟨Bn, 0, none⟩ _).same D _ hK2 rfl, keepsFrom_set _ _ 0 _ _, krow_set (by omega) _ 0 _⟩
        clear hG2 hK2 hG1 hK1 hT1
        generalize ts[x]?.getD ⟨#[]⟩ = s
        gi_wp2
        exact ⟨HF.out.2.2.1, HF.out.2.2.2, by simpa using HF.out.1, HF.out.2.1⟩
      case done2 =>
        rintro D2 ys W2 hD2 rfl ⟨hG2, hK2⟩ hK3
        rw [List.length_range] at hG2
        have hRW := H.out.2.below hG2.2
        have hrlen : Calls Try.prog 14 #[.pointer (some ⟨br, 0, none⟩)] W2.drew fun e w' => e = .returned (.int .i64 ts.length) ∧ w' = W2.drew := rlen_yes (hRW.kept (Turn.drew (fun _ => False) W2) (fun _ _ e => e))
        have cn := hG2.1.1.1.cell
        have cq := hG2.1.1.2.cell
        have fq := hG2.1.1.2.frozen
        have cr := hG2.1.2.1.cell
        have HG2 : Hid (GI w bt br Bl Bq Ba Bn leave (ts.length : Int) false W2 ∧ W2.heap[D]? = some (.deferred (some [])) ∧ W2.heap[D2]? = some (.deferred (some []))) := ⟨hG2, hK2, hK3⟩
        clear hG2 hK2 hK3 hRW hG1 hK1 hT1
        gi_wp2
        refine wp_plainly ?_
        gi_region_with (gi_at_call 14; refine CallsIn.mono (callsIn_wide.2 hrlen) ?_; rintro e w' ⟨rfl, rfl⟩)
        all_goals dsimp only [plainly]
        all_goals gi_wp2
        all_goals
          have hfin := gi_end (W2.setCell ⟨Bq, 0, none⟩ (.bool true)).drew D D2 Bq w ((KeepsOthers.setCell W2 ⟨Bq, 0, none⟩ (.bool true)).same D _ HG2.out.2.1 rfl) ((KeepsOthers.setCell W2 ⟨Bq, 0, none⟩ (.bool true)).same D2 _ HG2.out.2.2 rfl) (by omega) (World.cell?_setCell_same' W2 ⟨Bq, 0, none⟩ (.bool true) (by rw [cq]; rfl)) ((HG2.out.1.2.setCell (p := ⟨Bq, 0, none⟩) (by have h9 := hBs.out; show w.heap.size ≤ Bq; omega) _).drew) (by omega) (by omega)
          obtain ⟨h1, h2, h3, h4⟩ := hfin
          refine ⟨by simp, .inl ⟨_, _, rfl, run_takeDeferred h1, ⟨by simp, .inl ⟨_, _, rfl, run_takeDeferred h2, ?_⟩⟩⟩⟩
          refine ⟨.bool true, ?_, rfl, h4⟩
          simp [results, Try.results15, go_sem, h3]
      case stop2 =>
        rintro _ _ _ _ _ _ h _
        exact h.elim
    · have g1 : decide (0 < leave) = true := by simpa using hc1
      have g2 : (n != min leave (ts.length : Int)) = false := by simpa using hc2
      have g3 : decide (leave ≤ 0) = false := by simpa using hc1
      clear hc2
      gi_wp2
      gi_big_quiet_th (first | (gi_at_call 14; refine CallsIn.quiet_of_same (callsIn_wide.2 (hrlen _))))
      clear g1 g2 g3 hc1 cr cl hrlen
      gi_wp2
      obtain ⟨W1, hW1⟩ : ∃ W1, (W.drewN nq).setCell ⟨Bn, 0, none⟩ (.int .i64 0) = W1 := ⟨_, rfl⟩
      have hG1 : GI w bt br Bl Bq Ba Bn leave ((([] : List Nat).length : Nat) : Int) false W1 := by
        obtain ⟨e1, e2, e3, e4⟩ := hBs.out
        rw [← hW1]; exact HG.out.1.set (by omega) (by omega) (by omega) (by omega) (by omega) nq 0
      have hK1 : W1.heap[D]? = some (.deferred (some [])) := by
        rw [← hW1]; exact (KeepsOthers.setCell (W.drewN nq) ⟨Bn, 0, none⟩ (.int .i64 0)).same D _ HG.out.2 rfl
      rw [hW1]
      clear hW1 HG cn fn
      have hDl : D < W1.heap.size := (Array.getElem?_eq_some_iff.1 hK1).1
      have hs1 := hG1.2.size
      have hT1 : Tab W1 bt bm g cap ts := H.out.1.kept (Turn.of_below hG1.2) (by rintro k (rfl | rfl | rfl) <;> omega)
      refine wpIn_rangeFunc_ownG (α := Nat) rfl (by decide) (gf := 45) (lb := #[.pointer (some ⟨Ba, 0, none⟩)]) rfl trivial (enters_of Try.func45 (by kernel_rfl) rfl)
        (allN_stops (5 - 1) (by decide) Ba bt bm g cap ts W1 hG1.1.2.2.2.cell hT1) krow_t (krow_b (by omega)) (Below.refl _ _) (fun _ => rfl)
        (fun pre W => GI w bt br Bl Bq Ba Bn leave pre.length false W ∧ W.heap[D]? = some (.deferred (some []))) (fun _ _ _ => False)
        (OwnFrom.and (gi_own w bt br Bl Bq Ba Bn leave (fun pre => (pre.length : Int)) false _ (by omega)) (own_block _ D _ hDl))
        (fun _ _ _ _ _ hs _ _ => hs)
        ⟨hG1, hK1⟩ (fun x => { tmps := #[(.pointer (some ⟨bt, 0, none⟩)), (.pointer (some ⟨br, 0, none⟩)), (.int .i64 leave), undef, (.pointer (some ⟨w.heap.size, 0, none⟩)), (.pointer (some ⟨Bl, 0, none⟩)), (.pointer (some ⟨Bq, 0, none⟩)), (.func (.func 45) #[] #[.pointer (some ⟨Ba, 0, none⟩)]), (.pointer (some ⟨Bn, 0, none⟩)), undef, undef, (.pointer (some ⟨bt, 0, none⟩)), (.func (.func 45) #[] #[.pointer (some ⟨Ba, 0, none⟩)]), (.func (.func 45) #[] #[.pointer (some ⟨Ba, 0, none⟩)]), (.bool false), (.func (.func 45) #[] #[.pointer (some ⟨Ba, 0, none⟩)]), undef, undef, undef, undef, undef, undef, undef, undef, undef, undef, undef, undef, undef, undef, undef, undef, undef, undef, undef, undef, undef, undef, undef, undef, undef, undef, undef, (.int .i64 leave), (.bool true), (.bool true), (.int .i64 n), (.int .i64 leave), (.pointer (some ⟨br, 0, none⟩)), (.int .i64 (ts.length : Int)), (.int .i64 (min leave (ts.length : Int))), (.bool false), (.bool false), (.bool false), (.int .i64 leave), (.bool false), (.bool false), undef, undef, undef, undef, (.bool false), (.bool false), (.func (.func 45) #[] #[.pointer (some ⟨Ba, 0, none⟩)]), (.int .i64 (x : Int)), (.string (ts[x]?.getD ⟨#[]⟩)), undef, undef, undef, undef, undef, undef], defers := [] }) ?assign2 ?body2 ?done2 ?stop2
      case assign2 =>
        intro l x W K hK
        dsimp only [encsN]
        gi_wp2
        exact hK
      case body2 =>
        rintro l pre x W ⟨hG2, hK2⟩ hm
        have cn := hG2.1.1.1.cell
        have fn := hG2.1.1.1.frozen
        have hmb : (pre.length : Int) < 9223372036854775807 := by omega
        have HF : Hid (GI w bt br Bl Bq Ba Bn leave ((pre.length : Int) + 1) false (W.setCell ⟨Bn, 0, none⟩ (.int .i64 ((pre.length : Int) + 1))) ∧ (W.setCell ⟨Bn, 0, none⟩ (.int .i64 ((pre.length : Int) + 1))).heap[D]? = some (.deferred (some [])) ∧ KeepsFrom W1.heap.size W (W.setCell ⟨Bn, 0, none⟩ (.int .i64 ((pre.length : Int) + 1))) ∧ KRow g ts.length W (W.setCell ⟨Bn, 0, none⟩ (.int .i64 ((pre.length : Int) + 1)))) := by
          obtain ⟨e1, e2, e3, e4⟩ := hBs.out
          exact ⟨hG2.set (by omega) (by omega) (by omega) (by omega) (by omega) 0 _, (KeepsOthers.setCell W ⟨Bn, 0, none⟩ _).same D _ hK2 rfl, keepsFrom_set _ _ 0 _ _, krow_set (by omega) _ 0 _⟩
        clear hG2 hK2 hG1 hK1 hT1
        generalize ts[x]?.getD ⟨#[]⟩ = s
        gi_wp2
        exact ⟨HF.out.2.2.1, HF.out.2.2.2, by simpa using HF.out.1, HF.out.2.1⟩
      case done2 =>
        rintro D2 ys W2 hD2 rfl ⟨hG2, hK2⟩ hK3
        rw [List.length_range] at hG2
        have hRW := H.out.2.below hG2.2
        have hrlen : Calls Try.prog 14 #[.pointer (some ⟨br, 0, none⟩)] W2.drew fun e w' => e = .returned (.int .i64 ts.length) ∧ w' = W2.drew := rlen_yes (hRW.kept (Turn.drew (fun _ => False) W2) (fun _ _ e => e))
        have cn := hG2.1.1.1.cell
        have cq := hG2.1.1.2.cell
        have fq := hG2.1.1.2.frozen
        have cr := hG2.1.2.1.cell
        have HG2 : Hid (GI w bt br Bl Bq Ba Bn leave (ts.length : Int) false W2 ∧ W2.heap[D]? = some (.deferred (some [])) ∧ W2.heap[D2]? = some (.deferred (some []))) := ⟨hG2, hK2, hK3⟩
        clear hG2 hK2 hK3 hRW hG1 hK1 hT1
        gi_wp2
        refine wp_plainly ?_
        gi_region_with (gi_at_call 14; refine CallsIn.mono (callsIn_wide.2 hrlen) ?_; rintro e w' ⟨rfl, rfl⟩)
        all_goals dsimp only [plainly]
        all_goals gi_wp2
        all_goals
          have hfin := gi_end (W2.setCell ⟨Bq, 0, none⟩ (.bool true)).drew D D2 Bq w ((KeepsOthers.setCell W2 ⟨Bq, 0, none⟩ (.bool true)).same D _ HG2.out.2.1 rfl) ((KeepsOthers.setCell W2 ⟨Bq, 0, none⟩ (.bool true)).same D2 _ HG2.out.2.2 rfl) (by omega) (World.cell?_setCell_same' W2 ⟨Bq, 0, none⟩ (.bool true) (by rw [cq]; rfl)) ((HG2.out.1.2.setCell (p := ⟨Bq, 0, none⟩) (by have h9 := hBs.out; show w.heap.size ≤ Bq; omega) _).drew) (by omega) (by omega)
          obtain ⟨h1, h2, h3, h4⟩ := hfin
          refine ⟨by simp, .inl ⟨_, _, rfl, run_takeDeferred h1, ⟨by simp, .inl ⟨_, _, rfl, run_takeDeferred h2, ?_⟩⟩⟩⟩
          refine ⟨.bool true, ?_, rfl, h4⟩
          simp [results, Try.results15, go_sem, h3]
      case stop2 =>
        rintro _ _ _ _ _ _ h _
        exact h.elim
end Go.Proofs.Ytdmopioiaaecfaa
