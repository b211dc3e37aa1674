/- plays: a step on a pair of tables, whatever is asked. -/
import Derived.Test.YtdmopioiaaecfaaPairC
namespace Go.Proofs.Ytdmopioiaaecfaa
open Go.RowKit Go.Maps

/-- A step's two lists, and its numbers. -/
structure Stp where
  kind : Int
  who : Int
  n : Int
  m : Int
  ta : Option Addr
  tb : Nat
  to : Nat
  tc : Nat
  ss : List ByteArray
  na : Option Addr
  nb : Nat
  no : Nat
  nc : Nat
  zs : List Int
def Stp.cells (s : Stp) : List Value := [.int .i64 s.kind, .int .i64 s.who, .int .i64 s.n, .int .i64 s.m, .slice s.ta s.ss.length s.tc, .slice s.na s.zs.length s.nc]
def Stp.v (s : Stp) : Value := .agg s.cells.toArray
structure Stp.Ok (s : Stp) (W : World) : Prop where
  texts : StrsAt W s.ta s.tb s.to s.ss
  ta : s.ta = none → s.tc = 0 ∧ s.ss = []
  sz : ∀ x ∈ s.ss, x.size ≤ 281474976710656
  ints : IntsS W s.na s.nb s.no s.zs
  na : s.na = none → s.nc = 0 ∧ s.zs = []
  few : s.ss.length ≤ 1048576 ∧ s.zs.length ≤ 1048576
  fit : -9223372036854775808 ≤ s.n ∧ s.n ≤ 9223372036854775807

section
variable {W W' : World} {P : Nat → Prop} {p q : Value} {ts : List ByteArray} {s : Stp}

theorem Stp.Ok.below (h : s.Ok W) (hb : Below W.heap.size W W') : s.Ok W' :=
  { h with texts := h.texts.below hb, ints := h.ints.below hb }

/-- What a step leaves. -/
def Left (W : World) (P : Nat → Prop) (p q : Value) (ts : List ByteArray) (s : Stp) (e : Ending) (W' : World) : Prop := e = .returned (.bool true) ∧ ∃ us, us.length ≤ ts.length + s.ss.length ∧ Goes W P p q us W'

/-- The world with the step in a box. -/
def boxed (W : World) (s : Stp) : World := W.alloc (.cells s.cells.toArray 33)
theorem boxed_below (W : World) (s : Stp) : Below W.heap.size W (boxed W s) := (Below.refl _ _).alloc (Nat.le_refl _) _

theorem left_of {e : Ending} {W1 : World} (h : Pr W P p q ts) (hb : Below W.heap.size W W1) (he : e = .returned (.bool true)) : Left W P p q ts s e W1 :=
  ⟨he, ts, by omega, Goes.of_below h hb⟩

set_option maxRecDepth 100000 in
set_option maxHeartbeats 2000000 in
theorem plays_any (h : Pr W P p q ts) (hs : s.Ok W) (hn : ∀ k, k < W.heap.size → (0 < s.ss.length → k = s.tb → ¬ P k)) (hl : ts.length + s.ss.length + 2 ≤ 8796093022208) (h0 : 0 < W.heap.size) :
    Calls Try.prog 12 #[p, q, s.v] W (Left W P p q ts s) := by
  have hb0 := boxed_below W s
  have hsz0 : W.heap.size < (boxed W s).heap.size := by unfold boxed; simp
  have h' := h.below hb0
  have hs' := hs.below hb0
  have HP : Hid (Pr W P p q ts ∧ (∀ k, P k → k < W.heap.size) ∧ Below W.heap.size W (boxed W s) ∧ s.Ok W) := ⟨h, h.lt, hb0, hs⟩
  have hnb : 0 < s.ss.length → ¬ P s.tb := fun h1 hp => by
    have := h.lt _ hp
    exact hn _ this h1 rfl hp
  obtain ⟨hf1, hf2⟩ := hs.few
  obtain ⟨hg1, hg2⟩ := hs.fit
  -- the calls
  have c2 := puts_pair h' s.ta s.tb s.to s.tc s.ss hs'.texts hs'.ta hnb hs'.sz hl
  have c3 := finds_pair h' s.ta s.tb s.to s.tc s.ss hs'.texts hs'.sz (by omega)
  have c5 := texts_pair h' s.na s.nb s.no s.nc s.zs hs'.ints hs'.na (by omega) (by omega)
  have c7 := goes_pair h' s.n hg1 hg2
  have c8 := ranks_pair h' (by omega)
  obtain ⟨x4, o4, c41, c42⟩ := text_pair h' s.n
  obtain ⟨x6, c61, c62⟩ := len_pair h'
  obtain ⟨x9, e9, c91, c92⟩ := compare_pair h' s.n s.m
  have HL : Hid (∀ e w', e = .returned (.bool true) → Below (boxed W s).heap.size (boxed W s) w' → Left W P p q ts s e w') := fun e w' he hb => left_of HP.out.1 (HP.out.2.2.1.trans (hb.mono HP.out.2.2.1.size)) he
  have HG : Hid (∀ e w', e = .returned (.bool true) → (∃ us, us.length ≤ ts.length + s.ss.length ∧ Goes (boxed W s) P p q us w') → Left W P p q ts s e w') := fun e w' he ⟨us, h1, h2⟩ => ⟨he, us, h1, h2.before HP.out.2.2.1⟩
  have H1 : Hid (∀ (h1 : 0 < s.ss.length), (boxed W s).cell? ⟨s.tb, s.to, none⟩ = some (.string s.ss[0]) ∧ s.ta = some ⟨s.tb, s.to, none⟩ ∧ Calls Try.prog 22 #[p, .string s.ss[0]] (boxed W s) fun e w2 => ∃ a er : Int, e = .returned (.tuple #[.int .i64 a, .int .i64 er]) ∧ Turn P (boxed W s) w2 ∧
      w2.cell? ⟨s.tb, s.to, none⟩ = some (.string s.ss[0]) ∧ w2.cell? ⟨W.heap.size, 4, none⟩ = some (.slice s.ta s.ss.length s.tc) ∧
      Calls Try.prog 23 #[q, .string s.ss[0]] w2 fun e w3 => e = .returned (.tuple #[.int .i64 a, .int .i64 er]) ∧ Left W P p q ts s (.returned (.bool true)) w3) := fun h1 => by
    have hc := hs'.texts.2 0 h1
    rw [Nat.add_zero] at hc
    refine ⟨hc, hs'.texts.1 h1, ?_⟩
    refine (put_pair h' s.ss[0] (hs'.sz _ (List.getElem_mem h1)) (by omega)).mono ?_
    rintro e w2 ⟨a, er, rfl, ht, hr⟩
    refine ⟨a, er, rfl, ht, ht.cell hc (hnb h1), ht.cell (p := ⟨W.heap.size, 4, none⟩) (by unfold boxed Stp.cells; simp) (fun hp => by have := HP.out.2.1 _ hp; dsimp only at this; omega), hr.mono ?_⟩
    rintro e w3 ⟨rfl, us, h2, h3⟩
    exact ⟨rfl, rfl, us, by omega, h3.before HP.out.2.2.1⟩
  clear h h' hs hs' hn hb0 hnb
  obtain ⟨kind, who, n, m, ta, tb, to, tc, ss, na, nb, no, nc, zs⟩ := s
  dsimp only [Stp.v, Stp.cells, boxed, List.toArray] at *
  have HSz := hsz0
  clear hsz0
  by_cases k1 : kind = 1
  · subst k1
    clear c2 c3 c5 c7 c8 c41 c42 c61 c62 c91 c92
    by_cases hss : 0 < ss.length
    · obtain ⟨hc, rfl, hp⟩ := H1.out hss
      have hlb : ¬ (ss.length : Int) = 0 := by omega
      have hlb2 : (0 : Int) < (ss.length : Int) := by omega
      generalize ss[0] = x at hc hp
      clear H1 HL HG
      go_enter Try.func12, Try.ntmps12
      go_wp2_with (first
        | (go_at_call 22; refine hp.mono ?_; rintro e w2 ⟨a, er, rfl, _, hc2, hc3, hr⟩; clear hp)
        | (go_at_call 23; refine hr.mono ?_; rintro e w3 ⟨rfl, hL⟩; have HL3 : Hid _ := hL; clear hL hr)
        | (go_at_call 24; refine Calls.mono (num_any _ _) ?_; rintro e w' ⟨rfl, hw⟩; have hw' := hw.symm; subst hw'))
      go_ret
      exact ⟨by first | rfl | simp, HL3.out.2⟩
    · have hlb : (ss.length : Int) = 0 := by omega
      go_enter Try.func12, Try.ntmps12
      go_wp2
      go_ret
      exact HL.out _ _ rfl (Below.refl _ _)
  by_cases k2 : kind = 2
  · subst k2
    clear c3 c5 c7 c8 c41 c42 c61 c62 c91 c92 H1
    go_enter Try.func12, Try.ntmps12
    go_wp2_with (go_at_call 36; refine c2.mono ?_; rintro e w2 ⟨rfl, hL⟩; have HX : Hid _ := hL; clear hL c2)
    go_ret
    exact HG.out _ _ rfl HX.out
  by_cases k3 : kind = 3
  · subst k3
    clear c2 c5 c7 c8 c41 c42 c61 c62 c91 c92 H1
    go_enter Try.func12, Try.ntmps12
    go_wp2_with (go_at_call 37; refine c3.mono ?_; rintro e w2 ⟨rfl, hL⟩; have HX : Hid _ := hL; clear hL c3)
    go_ret
    exact HL.out _ _ rfl HX.out
  by_cases k4 : kind = 4
  · subst k4
    clear c2 c3 c5 c7 c8 c61 c62 c91 c92 H1
    go_enter Try.func12, Try.ntmps12
    go_wp2_with (first | (go_at_call 30; refine c41.mono ?_; rintro e w' ⟨rfl, hw⟩; have hw' := hw.symm; subst hw'; clear c41) | (go_at_call 38; refine c42.mono ?_; rintro e w' ⟨rfl, hw⟩; have hw' := hw.symm; subst hw'; clear c42))
    go_ret
    exact HL.out _ _ (by simp) (Below.refl _ _)
  by_cases k5 : kind = 5
  · subst k5
    clear c2 c3 c7 c8 c41 c42 c61 c62 c91 c92 H1
    go_enter Try.func12, Try.ntmps12
    go_wp2_with (go_at_call 39; refine c5.mono ?_; rintro e w2 ⟨rfl, hL⟩; have HX : Hid _ := hL; clear hL c5)
    go_ret
    exact HL.out _ _ rfl HX.out
  by_cases k6 : kind = 6
  · subst k6
    clear c2 c3 c5 c7 c8 c41 c42 c91 c92 H1
    go_enter Try.func12, Try.ntmps12
    go_wp2_with (first | (go_at_call 13; refine c61.mono ?_; rintro e w' ⟨rfl, hw⟩; have hw' := hw.symm; subst hw'; clear c61) | (go_at_call 14; refine c62.mono ?_; rintro e w' ⟨rfl, hw⟩; have hw' := hw.symm; subst hw'; clear c62))
    go_ret
    exact HL.out _ _ (by simp) (Below.refl _ _)
  by_cases k7 : kind = 7
  · subst k7
    clear c2 c3 c5 c8 c41 c42 c61 c62 c91 c92 H1
    go_enter Try.func12, Try.ntmps12
    go_wp2_with (go_at_call 15; refine c7.mono ?_; rintro e w2 ⟨rfl, hL⟩; have HX : Hid _ := hL; clear hL c7)
    go_ret
    exact HL.out _ _ rfl HX.out
  by_cases k8 : kind = 8
  · subst k8
    clear c2 c3 c5 c7 c41 c42 c61 c62 c91 c92 H1
    go_enter Try.func12, Try.ntmps12
    go_wp2_with (go_at_call 16; refine c8.mono ?_; rintro e w2 ⟨rfl, hL⟩; have HX : Hid _ := hL; clear hL c8)
    go_ret
    exact HL.out _ _ rfl HX.out
  by_cases k9 : kind = 9
  · subst k9
    clear c2 c3 c5 c7 c8 c41 c42 c61 c62 H1
    go_enter Try.func12, Try.ntmps12
    go_wp2_with (first | (go_at_call 40; refine c91.mono ?_; rintro e w2 ⟨rfl, n9, rfl⟩; have c93 := c92 n9; clear c91 c92) | (go_at_call 41; refine c93.mono ?_; rintro e w' ⟨rfl, hw⟩; have hw' := hw.symm; subst hw'; clear c93) | (go_at_call 24; refine Calls.mono (num_any _ _) ?_; rintro e w' ⟨rfl, hw⟩; have hw' := hw.symm; subst hw'))
    go_ret
    exact HL.out _ _ (by simp) (below_drewN' _ _)
  have e1 : (kind == 1) = false := by simpa using k1
  have e2 : (kind == 2) = false := by simpa using k2
  have e3 : (kind == 3) = false := by simpa using k3
  have e4 : (kind == 4) = false := by simpa using k4
  have e5 : (kind == 5) = false := by simpa using k5
  have e6 : (kind == 6) = false := by simpa using k6
  have e7 : (kind == 7) = false := by simpa using k7
  have e8 : (kind == 8) = false := by simpa using k8
  have e9 : (kind == 9) = false := by simpa using k9
  clear k1 k2 k3 k4 k5 k6 k7 k8 k9 c2 c3 c5 c7 c8 c41 c42 c61 c62 c91 c92 H1
  go_enter Try.func12, Try.ntmps12
  go_wp2
  go_ret
  exact HL.out _ _ rfl (Below.refl _ _)
end
end Go.Proofs.Ytdmopioiaaecfaa
