/- search: where a key lies, or the first empty place from its home on. -/
import Derived.Test.YtnhmjheipfopoaaIFl
import Derived.Outline
import Derived.Deep.RegionHeld3
namespace Go.Proofs.Ytnhmjheipfopoaa.L
open Go.RowKit Go.Maps Go.Proofs.Ytnhmjheipfopoaa

/-- The row of what came, or none if nothing came. -/
def Row (w : World) (cv : Value) (came : List E) : Prop := (cv = .slice none 0 0 ∧ came = []) ∨ ∃ g cap, cv = .slice (some ⟨g, 0, none⟩) came.length cap ∧ Came w g cap came

/-- What a search looks for. -/
def hit (fp : List LK) (h : Nat) (k : LK) (e : E) : Bool := e.hash == h && sm fp e.key k

/-- What holds at each jump of the search. -/
def sJ (w : World) (bt N home h : Nat) (fp : List LK) (k : LK) (came : List E) (places : List Nat) (a' : Act) (w' : World) : Prop := Stay w w' ∧ ∃ (s : Nat), s < N ∧ (∀ q, q < N → dist N home q < dist N home s → ∃ (t : Nat) (e : E), places[q]? = some (t + 1) ∧ came[t]? = some e ∧ hit fp h k e = false) ∧ ∃ (u8 u9 u10 u11 u12 u13 u14 u15 u16 u17 u18 u19 u20 u21 u22 u23 u24 u25 u26 u27 u28 u29 u30 u31 u32 u33 u34 u35 u36 u37 u38 u39 u40 : Value),
    a' = { tmps := #[.pointer (some ⟨bt, 0, none⟩), k.v, .int .u64 (h : Int), undef, undef, undef, .int .i64 0, .int .i64 (s : Int), u8, u9, u10, u11, u12, u13, u14, u15, u16, u17, u18, u19, u20, u21, u22, u23, u24, u25, u26, u27, u28, u29, u30, u31, u32, u33, u34, u35, u36, u37, u38, u39, u40], defers := [] }
def sM (N z : Nat) (a' : Act) (_ : World) : Nat := dist N (intOf (a'.tmps.getD 7 undef)).toNat z

theorem past_more {N home s z : Nat} (hh : home < N) (hs : s < N) (hz : z < N) (hne : s ≠ z) (hzh : dist N home s ≤ dist N home z) (P : Nat → Prop) (hp : ∀ q, q < N → dist N home q < dist N home s → P q) (hps : P s) :
    (∀ q, q < N → dist N home q < dist N home (nx N s) → P q) ∧ nx N s < N ∧ dist N home (nx N s) ≤ dist N home z ∧ dist N (nx N s) z < dist N s z := by
  have h1 := dist_spec hh hs
  have h2 := dist_spec hh hz
  have h3 := nx_spec hs
  have h4 := dist_spec hh h3.1
  have h5 := dist_spec hs hz
  have h6 := dist_spec h3.1 hz
  refine ⟨fun q hq hd => ?_, h3.1, by omega, by omega⟩
  have h7 := dist_spec hh hq
  by_cases e : q = s
  · exact e ▸ hps
  · exact hp q hq (by omega)

theorem s3_keep {Z W W' : World} {bt g t h : Nat} {u v : Value} (hs : Stay W W') (x : W.cell? ⟨bt, 1, none⟩ = some u ∧ W.cell? ⟨g, t * 5, none⟩ = some v ∧ W.cell? ⟨g, t * 5 + 2, none⟩ = some (.int .u64 h) ∧ Hid (Stay Z W)) :
    W'.cell? ⟨bt, 1, none⟩ = some u ∧ W'.cell? ⟨g, t * 5, none⟩ = some v ∧ W'.cell? ⟨g, t * 5 + 2, none⟩ = some (.int .u64 h) ∧ Hid (Stay Z W') :=
  ⟨hs.cell x.1, hs.cell x.2.1, hs.cell x.2.2.1, x.2.2.2.out.trans hs⟩
theorem s3_stay {Z W : World} {bt g t h : Nat} {u v : Value} (x : W.cell? ⟨bt, 1, none⟩ = some u ∧ W.cell? ⟨g, t * 5, none⟩ = some v ∧ W.cell? ⟨g, t * 5 + 2, none⟩ = some (.int .u64 h) ∧ Hid (Stay Z W)) : Stay Z W := x.2.2.2.out

section
variable {w : World} {bt pb N : Nat} {fp : List LK} {came : List E} {places : List Nat}

set_option maxRecDepth 100000 in
set_option maxHeartbeats 1000000 in
theorem search_any (cv : Value) (c1 : w.cell? ⟨bt, 1, none⟩ = some sameV) (c2 : w.cell? ⟨bt, 2, none⟩ = some cv) (c3 : ∃ pc, w.cell? ⟨bt, 3, none⟩ = some (.slice (some ⟨pb, 0, none⟩) N pc)) (hN : Pow N)
    (hF : Fns w fp) (hR : Row w cv came) (hP : Spots w pb places) (hlen : places.length = N) (hback : ∀ (p t : Nat), places[p]? = some (t + 1) → ∃ e, came[t]? = some e ∧ KeyOk fp e.key) (hz : 0 < zeros places)
    (k : LK) (hk : KeyOk fp k) (h : Nat) (hh : h < 18446744073709551616) :
    Calls Try.prog 78 #[.pointer (some ⟨bt, 0, none⟩), k.v, .int .u64 (h : Int)] w fun e w' => ∃ r : Nat, e = .returned (.int .i64 (r : Int)) ∧ Ends N (h % N) came places (hit fp h k) r ∧ Stay w w' := by
  have hb := hN.bd
  have hhome := home_any c3 hN h hh
  have hlt : h % N < N := Nat.mod_lt _ hb.1
  obtain ⟨z, hz1, hz2⟩ := zeros_ex hz
  rw [hlen] at hz1
  generalize h % N = home at hhome hlt ⊢
  have hz0 : ∀ W q, Stay w W → q < N → places[q]? = some 0 → Calls Try.prog 77 #[.pointer (some ⟨bt, 0, none⟩), .int .i64 (q : Int)] W fun e w' => e = .returned (.pointer none) ∧ w' = W := fun W q hW hq h0 =>
    at_none (w := W) (c3.imp fun _ hc => hW.cell hc) hN q hq (hW.cell (hP.cell q 0 h0))
  have hnx : ∀ W q, Stay w W → q < N → Calls Try.prog 92 #[.pointer (some ⟨bt, 0, none⟩), .int .i64 (q : Int)] W fun e w' => e = .returned (.int .i64 ((nx N q : Nat) : Int)) ∧ w' = W := fun W q hW hq =>
    next_any (w := W) (c3.imp fun _ hc => hW.cell hc) hN q hq
  have hat : ∀ W q t, Stay w W → q < N → places[q]? = some (t + 1) → ∃ g e, came[t]? = some e ∧ KeyOk fp e.key ∧ W.cell? ⟨g, t * 5, none⟩ = some (e.key.v) ∧ W.cell? ⟨g, t * 5 + 2, none⟩ = some (.int .u64 e.hash) ∧ Calls Try.prog 77 #[.pointer (some ⟨bt, 0, none⟩), .int .i64 (q : Int)] W fun e w' => e = .returned (.pointer (some ⟨g, t * 5, none⟩)) ∧ ∃ k, w' = W.drewN k := by
    intro W q t hW hq hp
    obtain ⟨e, he, hke⟩ := hback q t hp
    have htl := (List.getElem?_eq_some_iff.1 he).1
    rcases hR with ⟨_, h0⟩ | ⟨g, cap, rfl, hC⟩
    · subst h0; simp at he
    · have hcs := hC.cells t e he
      exact ⟨g, e, he, hke, hW.cell hcs.1, hW.cell hcs.2.2.1, at_some (w := W) g came.length cap (hW.cell c2) (c3.imp fun _ hc => hW.cell hc) hN q t hq (hW.cell (hP.cell q (t + 1) hp)) htl (by have := hC.len; omega)⟩
  have hsame : ∀ W a, Stay w W → KeyOk fp a → Calls Try.prog 68 #[a.v, k.v] W fun e w' => e = .returned (.bool (sm fp a k)) ∧ Stay W w' := fun W a hW ha => same_any (w := W) (hF.stay hW) a k ha hk
  have HZ : Hid (z < N ∧ places[z]? = some 0) := ⟨hz1, hz2⟩
  have HL : Hid (places.length = N) := hlen
  clear hback hR hP hz1 hz2 hz c2 hk hF hN hlen
  go_enter Try.func78, Try.ntmps78
  go_wp2
  refine wp_scope_jumps 0 (sJ w bt N home h fp k came places) (sM N z) rfl ?_ ?_
  · go_wp2_with fail
    refine hhome.mono ?_
    rintro e w9 ⟨rfl, hw⟩
    have hw' := hw.symm; subst hw'
    go_wp2_with fail
    go_step3
    clear hhome
    have hs := hlt
    have HW0 : Hid (Stay w w) := Stay.refl _
    have hpast : ∀ q, q < N → dist N home q < dist N home home → ∃ (t : Nat) (e : E), places[q]? = some (t + 1) ∧ came[t]? = some e ∧ hit fp h k e = false := by
      intro q _ hd; rw [dist_self] at hd; omega
    have hzh : dist N home home ≤ dist N home z := by
      apply Nat.le_of_not_lt
      intro hd
      obtain ⟨t, e, h1, _⟩ := hpast z HZ.out.1 hd
      rw [HZ.out.2] at h1; simp at h1
    cases hp : places[home]? with
    | none => rw [List.getElem?_eq_none_iff] at hp; have := HL.out; omega
    | some v =>
      cases v with
      | zero =>
        have h0 := hz0 w home HW0.out hs hp
        clear hz0 hnx hat hsame
        go_wp2_with fail
        refine h0.mono ?_
        rintro e w9 ⟨rfl, hw⟩
        have hw' := hw.symm; subst hw'
        clear h0
        go_wp2_with fail
        go_quiet (fail)
        go_wp2
        simp only [Exit.jump]
        go_ret
        exact ⟨home, rfl, ⟨hs, hpast, .inl hp⟩, HW0.out.trans (Stay.drewN _ _)⟩
      | succ t =>
        have hne : home ≠ z := by
          rintro rfl; rw [HZ.out.2] at hp; simp at hp
        obtain ⟨g, e, he, hke, ck, ch, hcall⟩ := hat w home t HW0.out hs hp
        have HN2 : Hid (∀ W, Stay w W → Calls Try.prog 92 #[.pointer (some ⟨bt, 0, none⟩), .int .i64 (home : Int)] W fun e w' => e = .returned (.int .i64 ((nx N home : Nat) : Int)) ∧ w' = W) := fun W hW => hnx W home hW hs
        have HSM : Hid (∀ W, Stay w W → Calls Try.prog 68 #[e.key.v, k.v] W fun e' w' => e' = .returned (.bool (sm fp e.key k)) ∧ Stay W w') := fun W hW => hsame W _ hW hke
        have HE : Hid (came[t]? = some e) := he
        have HP : Hid (places[home]? = some (t + 1)) := hp
        have c1q := HW0.out.cell c1
        clear hz0 hnx hat hsame he hp
        go_wp2_with fail
        refine hcall.mono ?_
        rintro e9 w9 ⟨rfl, n2, hw⟩
        have c1r : w9.cell? ⟨bt, 1, none⟩ = some sameV := by rw [hw]; exact c1q
        have ckq : w9.cell? ⟨g, t * 5, none⟩ = some (e.key.v) := by rw [hw]; exact ck
        have chq : w9.cell? ⟨g, t * 5 + 2, none⟩ = some (.int .u64 e.hash) := by rw [hw]; exact ch
        have HW : Hid (Stay w w9) := by rw [hw]; exact HW0.out.trans (Stay.drewN _ _)
        clear hcall hw ck ch c1q c1
        by_cases hq : e.hash = h
        · have hqb : ((e.hash : Int) == (h : Int)) = true := by simp [hq]
          have hqh : (e.hash == h) = true := by simpa using hq
          have HQ : Hid ((e.hash == h) = true) := hqh
          clear hqh hq
          cases hs2 : sm fp e.key k
          · have HS : Hid (hit fp h k e = false) := by show hit fp h k e = false; unfold hit; rw [HQ.out, hs2]; rfl
            have hm := past_more hlt hs HZ.out.1 hne hzh (fun q => ∃ (t : Nat) (e : E), places[q]? = some (t + 1) ∧ came[t]? = some e ∧ hit fp h k e = false) hpast ⟨t, e, HP.out, HE.out, HS.out⟩
            rw [hs2] at HSM
            go_wp2_with fail
            have hS0 := s3_keep (Stay.drew w9) ⟨c1r, ckq, chq, HW⟩
            clear c1r ckq chq
            go_region_held3 (fun V => V.cell? ⟨bt, 1, none⟩ = some sameV ∧ V.cell? ⟨g, t * 5, none⟩ = some (e.key.v) ∧ V.cell? ⟨g, t * 5 + 2, none⟩ = some (.int .u64 e.hash) ∧ Hid (Stay w V)) (first | assumption | (exact s3_keep (by assumption) (by assumption))) (first
              | (go_at_call 68; refine (HSM.out _ (s3_stay (by assumption))).mono ?_; rintro e8 w8 ⟨rfl, hs8⟩))
            have HW8 : Hid (Stay w w8) := s3_stay (by assumption)
            all_goals go_wp2_with fail
            all_goals (refine (HN2.out _ HW8.out).mono ?_; rintro e9 w7 ⟨rfl, hw⟩; have hw' := hw.symm; subst hw')
            all_goals go_wp2_with fail
            all_goals go_step3
            all_goals (
              refine ⟨rfl, ⟨HW8.out, _, hm.2.1, hm.1, _, _, _, _, _, _, _, _, _, _, _, _, _, _, _, _, _, _, _, _, _, _, _, _, _, _, _, _, _, _, _, _, _, rfl⟩⟩
            )
          · have HS : Hid (hit fp h k e = true) := by show hit fp h k e = true; unfold hit; rw [HQ.out, hs2]; rfl
            rw [hs2] at HSM
            go_wp2_with fail
            have hS0 := s3_keep (Stay.drew w9) ⟨c1r, ckq, chq, HW⟩
            clear c1r ckq chq
            go_region_held3 (fun V => V.cell? ⟨bt, 1, none⟩ = some sameV ∧ V.cell? ⟨g, t * 5, none⟩ = some (e.key.v) ∧ V.cell? ⟨g, t * 5 + 2, none⟩ = some (.int .u64 e.hash) ∧ Hid (Stay w V)) (first | assumption | (exact s3_keep (by assumption) (by assumption))) (first
              | (go_at_call 68; refine (HSM.out _ (s3_stay (by assumption))).mono ?_; rintro e8 w8 ⟨rfl, hs8⟩))
            have HW8 : Hid (Stay w w8) := s3_stay (by assumption)
            all_goals go_wp2_with fail
            all_goals simp only [Exit.jump]
            all_goals go_ret
            all_goals exact ⟨home, rfl, ⟨hs, hpast, .inr ⟨t, e, HP.out, HE.out, HS.out⟩⟩, HW8.out⟩
        · have hqb : ((e.hash : Int) == (h : Int)) = false := by simp; omega
          have HS : Hid (hit fp h k e = false) := by show hit fp h k e = false; unfold hit; rw [show (e.hash == h) = false by simpa using hq]; rfl
          go_wp2_with fail
          go_quiet (fail)
          have hm := past_more hlt hs HZ.out.1 hne hzh (fun q => ∃ (t : Nat) (e : E), places[q]? = some (t + 1) ∧ came[t]? = some e ∧ hit fp h k e = false) hpast ⟨t, e, HP.out, HE.out, HS.out⟩
          go_wp2_with fail
          have HW8 : Hid (Stay w (w9.drewN nq)) := HW.out.trans (Stay.drewN _ _)
          refine (HN2.out _ HW8.out).mono ?_
          rintro e9 w7 ⟨rfl, hw⟩
          have hw' := hw.symm; subst hw'
          go_wp2_with fail
          go_step3
          refine ⟨rfl, ⟨HW8.out, _, hm.2.1, hm.1, _, _, _, _, _, _, _, _, _, _, _, _, _, _, _, _, _, _, _, _, _, _, _, _, _, _, _, _, _, _, _, _, _, rfl⟩⟩
  · rintro a W0 ⟨hW0, s, hs, hpast, u8, u9, u10, u11, u12, u13, u14, u15, u16, u17, u18, u19, u20, u21, u22, u23, u24, u25, u26, u27, u28, u29, u30, u31, u32, u33, u34, u35, u36, u37, u38, u39, u40, rfl⟩
    have HW0 : Hid (Stay w W0) := hW0
    clear hhome hW0
    have hzh : dist N home s ≤ dist N home z := by
      apply Nat.le_of_not_lt
      intro hd
      obtain ⟨t, e, h1, _⟩ := hpast z HZ.out.1 hd
      rw [HZ.out.2] at h1; simp at h1
    cases hp : places[s]? with
    | none => rw [List.getElem?_eq_none_iff] at hp; have := HL.out; omega
    | some v =>
      cases v with
      | zero =>
        have h0 := hz0 W0 s HW0.out hs hp
        clear hz0 hnx hat hsame
        go_wp2_with fail
        refine h0.mono ?_
        rintro e w9 ⟨rfl, hw⟩
        have hw' := hw.symm; subst hw'
        clear h0
        go_wp2_with fail
        go_quiet (fail)
        go_wp2
        simp only [Exit.jump]
        go_ret
        exact ⟨s, rfl, ⟨hs, hpast, .inl hp⟩, HW0.out.trans (Stay.drewN _ _)⟩
      | succ t =>
        have hne : s ≠ z := by
          rintro rfl; rw [HZ.out.2] at hp; simp at hp
        obtain ⟨g, e, he, hke, ck, ch, hcall⟩ := hat W0 s t HW0.out hs hp
        have HN2 : Hid (∀ W, Stay w W → Calls Try.prog 92 #[.pointer (some ⟨bt, 0, none⟩), .int .i64 (s : Int)] W fun e w' => e = .returned (.int .i64 ((nx N s : Nat) : Int)) ∧ w' = W) := fun W hW => hnx W s hW hs
        have HSM : Hid (∀ W, Stay w W → Calls Try.prog 68 #[e.key.v, k.v] W fun e' w' => e' = .returned (.bool (sm fp e.key k)) ∧ Stay W w') := fun W hW => hsame W _ hW hke
        have HE : Hid (came[t]? = some e) := he
        have HP : Hid (places[s]? = some (t + 1)) := hp
        have c1q := HW0.out.cell c1
        clear hz0 hnx hat hsame he hp
        go_wp2_with fail
        refine hcall.mono ?_
        rintro e9 w9 ⟨rfl, n2, hw⟩
        have c1r : w9.cell? ⟨bt, 1, none⟩ = some sameV := by rw [hw]; exact c1q
        have ckq : w9.cell? ⟨g, t * 5, none⟩ = some (e.key.v) := by rw [hw]; exact ck
        have chq : w9.cell? ⟨g, t * 5 + 2, none⟩ = some (.int .u64 e.hash) := by rw [hw]; exact ch
        have HW : Hid (Stay w w9) := by rw [hw]; exact HW0.out.trans (Stay.drewN _ _)
        clear hcall hw ck ch c1q c1
        by_cases hq : e.hash = h
        · have hqb : ((e.hash : Int) == (h : Int)) = true := by simp [hq]
          have hqh : (e.hash == h) = true := by simpa using hq
          have HQ : Hid ((e.hash == h) = true) := hqh
          clear hqh hq
          cases hs2 : sm fp e.key k
          · have HS : Hid (hit fp h k e = false) := by show hit fp h k e = false; unfold hit; rw [HQ.out, hs2]; rfl
            have hm := past_more hlt hs HZ.out.1 hne hzh (fun q => ∃ (t : Nat) (e : E), places[q]? = some (t + 1) ∧ came[t]? = some e ∧ hit fp h k e = false) hpast ⟨t, e, HP.out, HE.out, HS.out⟩
            rw [hs2] at HSM
            go_wp2_with fail
            have hS0 := s3_keep (Stay.drew w9) ⟨c1r, ckq, chq, HW⟩
            clear c1r ckq chq
            go_region_held3 (fun V => V.cell? ⟨bt, 1, none⟩ = some sameV ∧ V.cell? ⟨g, t * 5, none⟩ = some (e.key.v) ∧ V.cell? ⟨g, t * 5 + 2, none⟩ = some (.int .u64 e.hash) ∧ Hid (Stay w V)) (first | assumption | (exact s3_keep (by assumption) (by assumption))) (first
              | (go_at_call 68; refine (HSM.out _ (s3_stay (by assumption))).mono ?_; rintro e8 w8 ⟨rfl, hs8⟩))
            have HW8 : Hid (Stay w w8) := s3_stay (by assumption)
            all_goals go_wp2_with fail
            all_goals (refine (HN2.out _ HW8.out).mono ?_; rintro e9 w7 ⟨rfl, hw⟩; have hw' := hw.symm; subst hw')
            all_goals go_wp2_with fail
            all_goals go_step3
            all_goals (
              refine ⟨rfl, ⟨HW8.out, _, hm.2.1, hm.1, _, _, _, _, _, _, _, _, _, _, _, _, _, _, _, _, _, _, _, _, _, _, _, _, _, _, _, _, _, _, _, _, _, rfl⟩, ?_⟩
              unfold sM
              simpa [intOf] using hm.2.2.2
            )
          · have HS : Hid (hit fp h k e = true) := by show hit fp h k e = true; unfold hit; rw [HQ.out, hs2]; rfl
            rw [hs2] at HSM
            go_wp2_with fail
            have hS0 := s3_keep (Stay.drew w9) ⟨c1r, ckq, chq, HW⟩
            clear c1r ckq chq
            go_region_held3 (fun V => V.cell? ⟨bt, 1, none⟩ = some sameV ∧ V.cell? ⟨g, t * 5, none⟩ = some (e.key.v) ∧ V.cell? ⟨g, t * 5 + 2, none⟩ = some (.int .u64 e.hash) ∧ Hid (Stay w V)) (first | assumption | (exact s3_keep (by assumption) (by assumption))) (first
              | (go_at_call 68; refine (HSM.out _ (s3_stay (by assumption))).mono ?_; rintro e8 w8 ⟨rfl, hs8⟩))
            have HW8 : Hid (Stay w w8) := s3_stay (by assumption)
            all_goals go_wp2_with fail
            all_goals simp only [Exit.jump]
            all_goals go_ret
            all_goals exact ⟨s, rfl, ⟨hs, hpast, .inr ⟨t, e, HP.out, HE.out, HS.out⟩⟩, HW8.out⟩
        · have hqb : ((e.hash : Int) == (h : Int)) = false := by simp; omega
          have HS : Hid (hit fp h k e = false) := by show hit fp h k e = false; unfold hit; rw [show (e.hash == h) = false by simpa using hq]; rfl
          go_wp2_with fail
          go_quiet (fail)
          have hm := past_more hlt hs HZ.out.1 hne hzh (fun q => ∃ (t : Nat) (e : E), places[q]? = some (t + 1) ∧ came[t]? = some e ∧ hit fp h k e = false) hpast ⟨t, e, HP.out, HE.out, HS.out⟩
          go_wp2_with fail
          have HW8 : Hid (Stay w (w9.drewN nq)) := HW.out.trans (Stay.drewN _ _)
          refine (HN2.out _ HW8.out).mono ?_
          rintro e9 w7 ⟨rfl, hw⟩
          have hw' := hw.symm; subst hw'
          go_wp2_with fail
          go_step3
          refine ⟨rfl, ⟨HW8.out, _, hm.2.1, hm.1, _, _, _, _, _, _, _, _, _, _, _, _, _, _, _, _, _, _, _, _, _, _, _, _, _, _, _, _, _, _, _, _, _, rfl⟩, ?_⟩
          unfold sM
          simpa [intOf] using hm.2.2.2
end
end Go.Proofs.Ytnhmjheipfopoaa.L
