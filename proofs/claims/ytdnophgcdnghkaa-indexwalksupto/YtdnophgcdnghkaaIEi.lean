/- search: where a key lies, or the first empty place from its home on. -/
import Derived.Test.YtdnophgcdnghkaaIFi
import Derived.Outline
namespace Go.Proofs.Ytdnophgcdnghkaa.I
open Go.RowKit Go.Maps Go.Proofs.Ytdnophgcdnghkaa

/-- The row of what came, or none if nothing came. -/
def Row (w : World) (cv : Value) (came : List E) : Prop := (cv = .slice none 0 0 ∧ came = []) ∨ ∃ g cap, cv = .slice (some ⟨g, 0, none⟩) came.length cap ∧ Came w g cap came

/-- What a search looks for. -/
def hit (fp : Nat × Nat × Int) (h : Nat) (k : Int) (e : E) : Bool := e.hash == h && sm fp e.key k

/-- What holds at each jump of the search. -/
def sJ (w : World) (bt N home h : Nat) (fp : Nat × Nat × Int) (k : Int) (came : List E) (places : List Nat) (a' : Act) (w' : World) : Prop := (∃ n, w' = w.drewN n) ∧ ∃ (s : Nat), s < N ∧ (∀ q, q < N → dist N home q < dist N home s → ∃ (t : Nat) (e : E), places[q]? = some (t + 1) ∧ came[t]? = some e ∧ hit fp h k e = false) ∧ ∃ (u8 u9 u10 u11 u12 u13 u14 u15 u16 u17 u18 u19 u20 u21 u22 u23 u24 u25 u26 u27 u28 u29 u30 u31 u32 u33 u34 u35 u36 u37 u38 u39 u40 : Value),
    a' = { tmps := #[.pointer (some ⟨bt, 0, none⟩), .int .i64 (k), .int .u64 (h : Int), undef, undef, undef, .int .i64 0, .int .i64 (s : Int), u8, u9, u10, u11, u12, u13, u14, u15, u16, u17, u18, u19, u20, u21, u22, u23, u24, u25, u26, u27, u28, u29, u30, u31, u32, u33, u34, u35, u36, u37, u38, u39, u40], defers := [] }
def sM (N z : Nat) (a' : Act) (_ : World) : Nat := dist N (intOf (a'.tmps.getD 7 undef)).toNat z

theorem past_more {N home s z : Nat} (hh : home < N) (hs : s < N) (hz : z < N) (hne : s ≠ z) (hzh : dist N home s ≤ dist N home z) (P : Nat → Prop) (hp : ∀ q, q < N → dist N home q < dist N home s → P q) (hps : P s) :
    (∀ q, q < N → dist N home q < dist N home (nx N s) → P q) ∧ nx N s < N ∧ dist N home (nx N s) ≤ dist N home z ∧ dist N (nx N s) z < dist N s z := by
  have h1 := dist_spec hh hs
  have h2 := dist_spec hh hz
  have h3 := nx_spec hs
  have h4 := dist_spec hh h3.1
  have h5 := dist_spec hs hz
  have h6 := dist_spec h3.1 hz
  refine ⟨fun q hq hd => ?_, h3.1, by omega, by omega⟩
  have h7 := dist_spec hh hq
  by_cases e : q = s
  · exact e ▸ hps
  · exact hp q hq (by omega)

section
variable {w : World} {bt pb N : Nat} {fp : Nat × Nat × Int} {came : List E} {places : List Nat}

set_option maxRecDepth 100000 in
set_option maxHeartbeats 1000000 in
theorem search_any (cv : Value) (c1 : w.cell? ⟨bt, 1, none⟩ = some (.func (.func 22) #[] #[.pointer (some ⟨fp.2.1, 0, none⟩)])) (c2 : w.cell? ⟨bt, 2, none⟩ = some cv) (c3 : ∃ pc, w.cell? ⟨bt, 3, none⟩ = some (.slice (some ⟨pb, 0, none⟩) N pc)) (hN : Pow N)
    (hF : Fns w fp) (hR : Row w cv came) (hP : Spots w pb places) (hlen : places.length = N) (hback : ∀ (p t : Nat), places[p]? = some (t + 1) → ∃ e, came[t]? = some e ∧ KeyOk e.key) (hz : 0 < zeros places)
    (k : Int) (hk : KeyOk k) (h : Nat) (hh : h < 18446744073709551616) :
    Calls Try.prog 42 #[.pointer (some ⟨bt, 0, none⟩), .int .i64 (k), .int .u64 (h : Int)] w fun e w' => ∃ r : Nat, e = .returned (.int .i64 (r : Int)) ∧ Ends N (h % N) came places (hit fp h k) r ∧ ∃ n, w' = w.drewN n := by
  have hb := hN.bd
  have hhome := home_any c3 hN h hh
  have hlt : h % N < N := Nat.mod_lt _ hb.1
  obtain ⟨z, hz1, hz2⟩ := zeros_ex hz
  rw [hlen] at hz1
  generalize h % N = home at hhome hlt ⊢
  have hz0 : ∀ n q, q < N → places[q]? = some 0 → Calls Try.prog 41 #[.pointer (some ⟨bt, 0, none⟩), .int .i64 (q : Int)] (w.drewN n) fun e w' => e = .returned (.pointer none) ∧ w' = w.drewN n := fun n q hq h0 =>
    at_none (w := w.drewN n) c3 hN q hq (hP.cell q 0 h0)
  have hnx : ∀ n q, q < N → Calls Try.prog 57 #[.pointer (some ⟨bt, 0, none⟩), .int .i64 (q : Int)] (w.drewN n) fun e w' => e = .returned (.int .i64 ((nx N q : Nat) : Int)) ∧ w' = w.drewN n := fun n q hq =>
    next_any (w := w.drewN n) c3 hN q hq
  have hat : ∀ n q t, q < N → places[q]? = some (t + 1) → ∃ g e, came[t]? = some e ∧ KeyOk e.key ∧ w.cell? ⟨g, t * 5, none⟩ = some (.int .i64 (e.key)) ∧ w.cell? ⟨g, t * 5 + 2, none⟩ = some (.int .u64 e.hash) ∧ Calls Try.prog 41 #[.pointer (some ⟨bt, 0, none⟩), .int .i64 (q : Int)] (w.drewN n) fun e w' => e = .returned (.pointer (some ⟨g, t * 5, none⟩)) ∧ ∃ k, w' = (w.drewN n).drewN k := by
    intro n q t hq hp
    obtain ⟨e, he, hke⟩ := hback q t hp
    have htl := (List.getElem?_eq_some_iff.1 he).1
    rcases hR with ⟨_, h0⟩ | ⟨g, cap, rfl, hC⟩
    · subst h0; simp at he
    · have hcs := hC.cells t e he
      exact ⟨g, e, he, hke, hcs.1, hcs.2.2.1, at_some (w := w.drewN n) g came.length cap c2 c3 hN q t hq (hP.cell q (t + 1) hp) htl (by have := hC.len; omega)⟩
  have hsame : ∀ n a, KeyOk a → Calls Try.prog 22 #[.int .i64 (a), .int .i64 (k), .pointer (some ⟨fp.2.1, 0, none⟩)] (w.drewN n) fun e w' => e = .returned (.bool (sm fp a k)) ∧ w' = w.drewN n := fun n a ha => same_any (w := w.drewN n) hF a k ha hk
  have HZ : Hid (z < N ∧ places[z]? = some 0) := ⟨hz1, hz2⟩
  have HL : Hid (places.length = N) := hlen
  clear hback hR hP hz1 hz2 hz c2 hk hF hN hlen
  go_enter Try.func42, Try.ntmps42
  go_wp2
  refine wp_scope_jumps 0 (sJ w bt N home h fp k came places) (sM N z) rfl ?_ ?_
  · go_wp2_with fail
    refine hhome.mono ?_
    rintro e w9 ⟨rfl, hw⟩
    have hw' := hw.symm; subst hw'
    go_wp2_with fail
    go_step3
    clear hhome
    have hs := hlt
    have hpast : ∀ q, q < N → dist N home q < dist N home home → ∃ (t : Nat) (e : E), places[q]? = some (t + 1) ∧ came[t]? = some e ∧ hit fp h k e = false := by
      intro q _ hd; rw [dist_self] at hd; omega
    have hzh : dist N home home ≤ dist N home z := by
      apply Nat.le_of_not_lt
      intro hd
      obtain ⟨t, e, h1, _⟩ := hpast z HZ.out.1 hd
      rw [HZ.out.2] at h1; simp at h1
    cases hp : places[home]? with
    | none => rw [List.getElem?_eq_none_iff] at hp; have := HL.out; omega
    | some v =>
      cases v with
      | zero =>
        have h0 := hz0 0 home hs hp
        clear hz0 hnx hat hsame
        go_wp2_with fail
        refine h0.mono ?_
        rintro e w9 ⟨rfl, hw⟩
        have HW : Hid (∃ n, w9 = w.drewN n) := ⟨_, hw⟩
        clear h0 hw
        go_wp2_with fail
        go_quiet (fail)
        go_wp2
        simp only [Exit.jump]
        go_ret
        obtain ⟨n5, h5⟩ := HW.out
        exact ⟨home, rfl, ⟨hs, hpast, .inl hp⟩, _, by rw [h5, World.drewN_drewN]⟩
      | succ t =>
        have hne : home ≠ z := by
          rintro rfl; rw [HZ.out.2] at hp; simp at hp
        obtain ⟨g, e, he, hke, ck, ch, hcall⟩ := hat 0 home t hs hp
        have hn2 := fun m => hnx m home hs
        have HE : Hid (came[t]? = some e) := he
        have HP : Hid (places[home]? = some (t + 1)) := hp
        clear hz0 hnx hat he hp
        go_wp2_with fail
        refine hcall.mono ?_
        rintro e9 w9 ⟨rfl, n2, hw⟩
        have c1q : w9.cell? ⟨bt, 1, none⟩ = some (.func (.func 22) #[] #[.pointer (some ⟨fp.2.1, 0, none⟩)]) := by rw [hw]; exact c1
        have ckq : w9.cell? ⟨g, t * 5, none⟩ = some (.int .i64 (e.key)) := by rw [hw]; exact ck
        have chq : w9.cell? ⟨g, t * 5 + 2, none⟩ = some (.int .u64 e.hash) := by rw [hw]; exact ch
        have hsm : ∀ m, Calls Try.prog 22 #[.int .i64 (e.key), .int .i64 (k), .pointer (some ⟨fp.2.1, 0, none⟩)] (w9.drewN m) fun e' w' => e' = .returned (.bool (sm fp e.key k)) ∧ w' = w9.drewN m := fun m => by
          rw [hw, World.drewN_drewN, World.drewN_drewN]; exact hsame _ _ hke
        have hn3 : ∀ m, Calls Try.prog 57 #[.pointer (some ⟨bt, 0, none⟩), .int .i64 (home : Int)] (w9.drewN m) fun e w' => e = .returned (.int .i64 ((nx N home : Nat) : Int)) ∧ w' = w9.drewN m := fun m => by
          rw [hw, World.drewN_drewN, World.drewN_drewN]; exact hn2 _
        have HW : Hid (∃ n, w9 = w.drewN n) := ⟨_, by rw [hw, World.drewN_drewN]⟩
        clear hcall hw hsame hn2 ck ch c1
        by_cases hq : e.hash = h
        · have hqb : ((e.hash : Int) == (h : Int)) = true := by simp [hq]
          go_wp2_with fail
          go_quiet ((go_at_call 22; exact Calls.quiet_of_same (hsm _)))
          have hqh : (e.hash == h) = true := by simpa using hq
          have HQ : Hid ((e.hash == h) = true) := hqh
          clear hqh hqb hq
          cases hs2 : sm fp e.key k
          · have HS : Hid (hit fp h k e = false) := by show hit fp h k e = false; unfold hit; rw [HQ.out, hs2]; rfl
            obtain hm := past_more hlt hs HZ.out.1 hne hzh (fun q => ∃ (t : Nat) (e : E), places[q]? = some (t + 1) ∧ came[t]? = some e ∧ hit fp h k e = false) hpast ⟨t, e, HP.out, HE.out, HS.out⟩
            go_wp2_with fail
            refine (hn3 _).mono ?_
            rintro e9 w8 ⟨rfl, hw⟩
            have HW8 : Hid (∃ n, w8 = w.drewN n) := by
              obtain ⟨n5, h5⟩ := HW.out
              exact ⟨_, by rw [hw, h5, World.drewN_drewN]⟩
            clear hw HW
            go_wp2_with fail
            go_step3
            refine ⟨rfl, ⟨HW8.out, _, hm.2.1, hm.1, _, _, _, _, _, _, _, _, _, _, _, _, _, _, _, _, _, _, _, _, _, _, _, _, _, _, _, _, _, _, _, _, _, rfl⟩⟩
          · have HS : Hid (hit fp h k e = true) := by show hit fp h k e = true; unfold hit; rw [HQ.out, hs2]; rfl
            go_wp2_with fail
            simp only [Exit.jump]
            go_ret
            obtain ⟨n5, h5⟩ := HW.out
            exact ⟨home, rfl, ⟨hs, hpast, .inr ⟨t, e, HP.out, HE.out, HS.out⟩⟩, _, by rw [h5, World.drewN_drewN]⟩
        · have hqb : ((e.hash : Int) == (h : Int)) = false := by simp; omega
          have HS : Hid (hit fp h k e = false) := by show hit fp h k e = false; unfold hit; rw [show (e.hash == h) = false by simpa using hq]; rfl
          go_wp2_with fail
          go_quiet (fail)
          obtain hm := past_more hlt hs HZ.out.1 hne hzh (fun q => ∃ (t : Nat) (e : E), places[q]? = some (t + 1) ∧ came[t]? = some e ∧ hit fp h k e = false) hpast ⟨t, e, HP.out, HE.out, HS.out⟩
          go_wp2_with fail
          refine (hn3 _).mono ?_
          rintro e9 w8 ⟨rfl, hw⟩
          have HW8 : Hid (∃ n, w8 = w.drewN n) := by
            obtain ⟨n5, h5⟩ := HW.out
            exact ⟨_, by rw [hw, h5, World.drewN_drewN]⟩
          clear hw HW
          go_wp2_with fail
          go_step3
          refine ⟨rfl, ⟨HW8.out, _, hm.2.1, hm.1, _, _, _, _, _, _, _, _, _, _, _, _, _, _, _, _, _, _, _, _, _, _, _, _, _, _, _, _, _, _, _, _, _, rfl⟩⟩
  · rintro a w' ⟨⟨n, rfl⟩, s, hs, hpast, u8, u9, u10, u11, u12, u13, u14, u15, u16, u17, u18, u19, u20, u21, u22, u23, u24, u25, u26, u27, u28, u29, u30, u31, u32, u33, u34, u35, u36, u37, u38, u39, u40, rfl⟩
    clear hhome
    have hzh : dist N home s ≤ dist N home z := by
      apply Nat.le_of_not_lt
      intro hd
      obtain ⟨t, e, h1, _⟩ := hpast z HZ.out.1 hd
      rw [HZ.out.2] at h1; simp at h1
    cases hp : places[s]? with
    | none => rw [List.getElem?_eq_none_iff] at hp; have := HL.out; omega
    | some v =>
      cases v with
      | zero =>
        have h0 := hz0 n s hs hp
        clear hz0 hnx hat hsame
        go_wp2_with fail
        refine h0.mono ?_
        rintro e w9 ⟨rfl, hw⟩
        have HW : Hid (∃ n, w9 = w.drewN n) := ⟨_, hw⟩
        clear h0 hw
        go_wp2_with fail
        go_quiet (fail)
        go_wp2
        simp only [Exit.jump]
        go_ret
        obtain ⟨n5, h5⟩ := HW.out
        exact ⟨s, rfl, ⟨hs, hpast, .inl hp⟩, _, by rw [h5, World.drewN_drewN]⟩
      | succ t =>
        have hne : s ≠ z := by
          rintro rfl; rw [HZ.out.2] at hp; simp at hp
        obtain ⟨g, e, he, hke, ck, ch, hcall⟩ := hat n s t hs hp
        have hn2 := fun m => hnx m s hs
        have HE : Hid (came[t]? = some e) := he
        have HP : Hid (places[s]? = some (t + 1)) := hp
        clear hz0 hnx hat he hp
        go_wp2_with fail
        refine hcall.mono ?_
        rintro e9 w9 ⟨rfl, n2, hw⟩
        have c1q : w9.cell? ⟨bt, 1, none⟩ = some (.func (.func 22) #[] #[.pointer (some ⟨fp.2.1, 0, none⟩)]) := by rw [hw]; exact c1
        have ckq : w9.cell? ⟨g, t * 5, none⟩ = some (.int .i64 (e.key)) := by rw [hw]; exact ck
        have chq : w9.cell? ⟨g, t * 5 + 2, none⟩ = some (.int .u64 e.hash) := by rw [hw]; exact ch
        have hsm : ∀ m, Calls Try.prog 22 #[.int .i64 (e.key), .int .i64 (k), .pointer (some ⟨fp.2.1, 0, none⟩)] (w9.drewN m) fun e' w' => e' = .returned (.bool (sm fp e.key k)) ∧ w' = w9.drewN m := fun m => by
          rw [hw, World.drewN_drewN, World.drewN_drewN]; exact hsame _ _ hke
        have hn3 : ∀ m, Calls Try.prog 57 #[.pointer (some ⟨bt, 0, none⟩), .int .i64 (s : Int)] (w9.drewN m) fun e w' => e = .returned (.int .i64 ((nx N s : Nat) : Int)) ∧ w' = w9.drewN m := fun m => by
          rw [hw, World.drewN_drewN, World.drewN_drewN]; exact hn2 _
        have HW : Hid (∃ n, w9 = w.drewN n) := ⟨_, by rw [hw, World.drewN_drewN]⟩
        clear hcall hw hsame hn2 ck ch c1
        by_cases hq : e.hash = h
        · have hqb : ((e.hash : Int) == (h : Int)) = true := by simp [hq]
          go_wp2_with fail
          go_quiet ((go_at_call 22; exact Calls.quiet_of_same (hsm _)))
          have hqh : (e.hash == h) = true := by simpa using hq
          have HQ : Hid ((e.hash == h) = true) := hqh
          clear hqh hqb hq
          cases hs2 : sm fp e.key k
          · have HS : Hid (hit fp h k e = false) := by show hit fp h k e = false; unfold hit; rw [HQ.out, hs2]; rfl
            obtain hm := past_more hlt hs HZ.out.1 hne hzh (fun q => ∃ (t : Nat) (e : E), places[q]? = some (t + 1) ∧ came[t]? = some e ∧ hit fp h k e = false) hpast ⟨t, e, HP.out, HE.out, HS.out⟩
            go_wp2_with fail
            refine (hn3 _).mono ?_
            rintro e9 w8 ⟨rfl, hw⟩
            have HW8 : Hid (∃ n, w8 = w.drewN n) := by
              obtain ⟨n5, h5⟩ := HW.out
              exact ⟨_, by rw [hw, h5, World.drewN_drewN]⟩
            clear hw HW
            go_wp2_with fail
            go_step3
            refine ⟨rfl, ⟨HW8.out, _, hm.2.1, hm.1, _, _, _, _, _, _, _, _, _, _, _, _, _, _, _, _, _, _, _, _, _, _, _, _, _, _, _, _, _, _, _, _, _, rfl⟩, ?_⟩
            unfold sM
            simpa [intOf] using hm.2.2.2
          · have HS : Hid (hit fp h k e = true) := by show hit fp h k e = true; unfold hit; rw [HQ.out, hs2]; rfl
            go_wp2_with fail
            simp only [Exit.jump]
            go_ret
            obtain ⟨n5, h5⟩ := HW.out
            exact ⟨s, rfl, ⟨hs, hpast, .inr ⟨t, e, HP.out, HE.out, HS.out⟩⟩, _, by rw [h5, World.drewN_drewN]⟩
        · have hqb : ((e.hash : Int) == (h : Int)) = false := by simp; omega
          have HS : Hid (hit fp h k e = false) := by show hit fp h k e = false; unfold hit; rw [show (e.hash == h) = false by simpa using hq]; rfl
          go_wp2_with fail
          go_quiet (fail)
          obtain hm := past_more hlt hs HZ.out.1 hne hzh (fun q => ∃ (t : Nat) (e : E), places[q]? = some (t + 1) ∧ came[t]? = some e ∧ hit fp h k e = false) hpast ⟨t, e, HP.out, HE.out, HS.out⟩
          go_wp2_with fail
          refine (hn3 _).mono ?_
          rintro e9 w8 ⟨rfl, hw⟩
          have HW8 : Hid (∃ n, w8 = w.drewN n) := by
            obtain ⟨n5, h5⟩ := HW.out
            exact ⟨_, by rw [hw, h5, World.drewN_drewN]⟩
          clear hw HW
          go_wp2_with fail
          go_step3
          refine ⟨rfl, ⟨HW8.out, _, hm.2.1, hm.1, _, _, _, _, _, _, _, _, _, _, _, _, _, _, _, _, _, _, _, _, _, _, _, _, _, _, _, _, _, _, _, _, _, rfl⟩, ?_⟩
          unfold sM
          simpa [intOf] using hm.2.2.2
end
end Go.Proofs.Ytdnophgcdnghkaa.I
