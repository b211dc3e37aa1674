/- filled: both relations with the same tuples. A loop over a relation, while the document's goes along. -/
import Derived.Test.YtnhmjheipfopoaaL8m
namespace Go.Proofs.Ytnhmjheipfopoaa.L
open Go.RowKit Go.Maps Go.Shelf Go.Proofs.Ytnhmjheipfopoaa

theorem qtr_nil (w : World) : (binOp .eql 25 (.pointer none) (.pointer none)).run Try.prog w = .ok (.bool true) w := by kernel_rfl
theorem qtr_some (b : Nat) (w : World) : (binOp .eql 25 (.pointer (some ⟨b, 0, none⟩)) (.pointer none)).run Try.prog w = .ok (.bool false) w := by kernel_rfl
theorem qtr_ne_nil (w : World) : (binOp .neq 25 (.pointer none) (.pointer none)).run Try.prog w = .ok (.bool false) w := by kernel_rfl
theorem qtr_ne_some (b : Nat) (w : World) : (binOp .neq 25 (.pointer (some ⟨b, 0, none⟩)) (.pointer none)).run Try.prog w = .ok (.bool true) w := by kernel_rfl

set_option maxRecDepth 100000 in
set_option maxHeartbeats 2000000 in
theorem filled_bad (w : World) (x : Int) (hx : x < 0 ∨ 16 < x) (a0 : Option Addr) (n0 c0 : Nat) (hn : n0 ≤ 1048576) :
    Calls Try.prog 6 #[.int .i64 x, .slice a0 n0 c0] w fun e w' => e = .returned (.tuple #[.pointer none, .pointer none, .bool true]) ∧ Stay w w' := by
  have hnw := new_bad x hx w
  have hqw := fun w1 => y4New_no x hx w1
  have hnum := q4num_any 2
  have p1 := ptr_nil
  have p2 := qtr_nil
  have p3 := qtr_ne_nil
  clear hx
  have h0 : 0 < n0 ∨ n0 = 0 := by omega
  go_enter Try.func6, Try.ntmps6
  go_wp2_with (first
    | (go_at_call 16; refine hnw.mono ?_; rintro e w1 ⟨rfl, hs⟩; have HS : Hid (Stay w w1) := hs; clear hs hnw)
    | (go_at_call 25; refine (hqw _).mono ?_; rintro e w2 ⟨rfl, hw⟩; have hw' := hw.symm; subst hw'; clear hqw)
    | (go_at_call 17; refine (hnum _).mono ?_; rintro e w3 ⟨rfl, hw⟩; have hw' := hw.symm; subst hw'))
  go_loopw [11] (fun i wr => i = .int .i64 0 ∧ Stay w wr) (fun _ _ => 0)
  case atStart => exact ⟨rfl, HS.out⟩
  case round =>
    obtain ⟨rfl, hst⟩ := hrel
    have HT : Hid (Stay w wr) := hst
    clear hst HS
    rcases h0 with h0 | h0
    · have h0i : (0 : Int) < (n0 : Int) := by omega
      go_wp2
      go_ret3
      exact ⟨rfl, HT.out⟩
    · subst h0
      go_wp2
      go_ret3
      exact ⟨rfl, HT.out⟩

theorem stay_turn' {w0 w w' : World} {F : Nat → Prop} (h : Stay w0 w) (ht : Turn F w w') (hF : ∀ k, F k → w0.heap.size ≤ k) : Stay w0 w' :=
  Below.trans h ⟨ht.os, ht.tape, ht.output, ht.size, fun k hk => ht.block k (Nat.lt_of_lt_of_le hk h.size) (fun hf => by have := hF k hf; omega)⟩

/-- Between two rounds. -/
def FilI (w : World) (rb qb ar : Nat) (T : List (List Int)) (A : World) : Prop := ∃ U, St A U rb qb ar T qb 0 ∧ (∀ i, U i → w.heap.size ≤ i) ∧ Stay w A

set_option maxRecDepth 100000 in
set_option maxHeartbeats 2000000 in
theorem filled_any (w : World) {ar : Nat} (har : ar ≤ 16) (a0 : Option Addr) (b0 o0 c0 : Nat) (us : List Tup) (hu : TupsA w a0 b0 o0 us) :
    Calls Try.prog 6 #[.int .i64 ar, .slice a0 us.length c0] w fun e w' => ∃ rb qb, e = .returned (.tuple #[.pointer (some ⟨rb, 0, none⟩), .pointer (some ⟨qb, 0, none⟩), .bool true]) ∧ FilI w rb qb ar (foldT ar (us.map Tup.xs)) w' := by
  have hnw := new_rel (ar := ar) w har
  have hqw : Hid (∀ w1, RelS w1 (fun k => w.heap.size ≤ k ∧ k < w1.heap.size) (w.heap.size + 1) ar [] → Stay w w1 → Calls Try.prog 25 #[.int .i64 ar] w1 fun e w2 => e = .returned (.tuple #[.pointer (some ⟨w1.heap.size, 0, none⟩), .int .i64 0]) ∧ FilI w (w.heap.size + 1) w1.heap.size ar [] w2) := fun w1 hR hs => by
    refine (y4New_yes w1 har).mono ?_
    rintro e w2 ⟨rfl, hQ, hs2⟩
    obtain ⟨vv, mb, L, Fs, hR⟩ := hR
    have hl : w1.heap.size < w2.heap.size := by obtain ⟨_, _, q⟩ := hQ; exact q.lt _ (.inl rfl)
    refine ⟨rfl, fun i => (w.heap.size ≤ i ∧ i < w1.heap.size) ∨ i = w1.heap.size ∨ False, ⟨_, _, _, ⟨vv, mb, L, Fs, RlN.far (hR.stay hs2) (fun q => absurd rfl q) (fun q => by omega) hl⟩, hQ, fun i hi => ⟨fun q => by omega, fun q => q⟩, fun i => Iff.rfl, fun q => by omega⟩, fun i hi => ?_, hs.trans hs2⟩
    have := hs.size
    rcases hi with q | q | q
    · exact q.1
    · omega
    · exact q.elim
  have hadd : Hid (∀ (rb qb k : Nat) (hk : k < us.length) (A : World), FilI w rb qb ar (foldT ar ((us.take k).map Tup.xs)) A → A.cell? ⟨b0, o0 + k, none⟩ = some (.slice us[k].a us[k].xs.length us[k].c) ∧ Calls Try.prog 14 #[.pointer (some ⟨rb, 0, none⟩), .pointer (some ⟨qb, 0, none⟩), .slice us[k].a us[k].xs.length us[k].c] A fun e A' => e = .returned (.bool true) ∧ FilI w rb qb ar (foldT ar ((us.take (k + 1)).map Tup.xs)) A') := fun rb qb k hk A hA => by
    obtain ⟨U, hS, hU, hs⟩ := hA
    have hI := (hu.cells k hk).2
    refine ⟨hs.cell (hu.cells k hk).1, ?_⟩
    have hlen := foldT_len ar ((us.take k).map Tup.xs)
    have hul := hu.len
    rw [List.length_map, List.length_take] at hlen
    refine (adds_any hS (fun _ => .inr rfl) (by omega) us[k].a us[k].b us[k].o us[k].c us[k].xs (hI.stay hs) (hu.each _ (List.getElem_mem hk)) (fun h0 q => by have := hU _ q; have := ints_lt hI h0; omega)).mono ?_
    rintro e A' ⟨rfl, U', hS', hU', ht, _⟩
    have hz := hs.size
    rw [List.take_succ_eq_append_getElem hk, List.map_append, List.map_singleton, foldT_snoc]
    exact ⟨rfl, U', hS', fun i hi => (hU' i hi).elim (hU i) (fun q => by omega), stay_turn' hs ht hU⟩
  have hnum := q4num_any 0
  have p1 := ptr_some
  have p2 := qtr_some
  have p3 := qtr_ne_some
  have H0 : Hid (0 < us.length → a0 = some ⟨b0, o0, none⟩) := hu.at0
  have hul : us.length ≤ 1048576 := hu.len
  clear hu
  go_enter Try.func6, Try.ntmps6
  go_wp2_with (first
    | (go_at_call 16; refine hnw.mono ?_; rintro e w1 ⟨rfl, hR1, hs1⟩; have hq1 := hqw.out w1 hR1 hs1; generalize hrb : w.heap.size + 1 = rb at hq1; generalize hqb : w1.heap.size = qb at hq1; clear hR1 hs1 hnw hrb)
    | (go_at_call 25; refine hq1.mono ?_; rintro e w2 ⟨rfl, hF⟩; have HF : Hid _ := hF; clear hq1 hqw hF)
    | (go_at_call 17; refine (hnum _).mono ?_; rintro e w3 ⟨rfl, hw⟩; have hw' := hw.symm; subst hw'))
  go_loopw [11] (fun i wr => ∃ k : Nat, k ≤ us.length ∧ i = .int .i64 k ∧ FilI w rb qb ar (foldT ar ((us.take k).map Tup.xs)) wr) (fun i _ => us.length - (intOf i).toNat)
  case atStart => exact ⟨0, Nat.zero_le _, rfl, HF.out⟩
  case round =>
    obtain ⟨k, hk, rfl, hA⟩ := hrel
    by_cases hlt : k < us.length
    · have hki : (k : Int) < (us.length : Int) := by omega
      obtain rfl := H0.out (by omega)
      obtain ⟨hc, had⟩ := hadd.out rb qb k hlt wr hA
      clear hA
      generalize us[k].xs.length = ul at hc had
      generalize us[k].a = ua at hc had
      generalize us[k].c = uc at hc had
      go_wp2_with (go_at_call 14; refine had.mono ?_; rintro e A' ⟨rfl, hF'⟩; have HF' : Hid _ := hF'; clear hF' had)
      go_roundw
      case rel => exact ⟨k + 1, by omega, by go_num, HF'.out⟩
      case measure => simp [intOf]; omega
    · have hki : ¬ (k : Int) < (us.length : Int) := by omega
      obtain rfl : k = us.length := by omega
      rw [List.take_length] at hA
      have HA : Hid (FilI w rb qb ar (foldT ar (us.map Tup.xs)) wr) := hA
      clear hA
      go_wp2
      go_ret3
      exact ⟨rb, qb, rfl, HA.out⟩
end Go.Proofs.Ytnhmjheipfopoaa.L
namespace Go.Proofs.Ytnhmjheipfopoaa.L
open Go.RowKit Go.Maps Go.Shelf Go.Proofs.Ytnhmjheipfopoaa

section
variable {A A' w : World} {U Bx : Nat → Prop} {rb qb ar : Nat} {T : List (List Int)} {k n : Nat}

theorem St.fresh (h : St A U rb qb ar T k n) : St A U rb qb ar T qb 0 := by
  obtain ⟨F, G, R, ⟨vv, mb, L, Fs, h1⟩, h2, h3, h4, _⟩ := h
  obtain ⟨lv, us, hq⟩ := h2
  have hG := hq.foot.1
  exact ⟨F, G, R, ⟨vv, mb, L, Fs, RlN.far h1.rl h1.whole (fun q => (h3 _ q).1 hG) (hq.lt _ (.inl hG))⟩, ⟨lv, us, hq⟩, h3, h4, fun q => by omega⟩

/-- A counter's box. -/
def Cnt0 (A : World) (bn : Nat) (k : Nat) : Prop := A.heap[bn]? = some (.cells #[.int .i64 (k : Int)] 3 (0, 0))

/-- How a round ends. -/
def relPost (rb qb ar : Nat) (T' : List (List Int)) (s : Mark) (k bn : Nat) (Us : Nat → Prop) (v : Value) (X : World) : Exit → Act → World → Prop
  | .normal, _, X' => ∃ Us', St X' Us' rb qb ar T' s.k s.n ∧ KeepC s.k s.n X X' ∧ Turn (fun i => Us i ∨ i = bn ∨ v.ownBlock = some i) X X' ∧ (∀ i, Us' i → Us i ∨ X.heap.size ≤ i) ∧ Cnt0 X' bn (k + 1)
  | _, _, _ => False

set_option maxHeartbeats 1000000 in
theorem range_rel {n : Nat} {g : Operand} {ps : Array Tmp} {assign body : Code} {Q : Exit → Act → World → Prop} {a : Act} (h1 : 1 ≤ n) {gf : Nat} {lb : Array Value} (hg : a.eval g = .func (.func gf) #[] lb)
    {C K : List Int} {x y : Int} (hS : St w U rb qb ar T qb 0) (hC : Clo gf lb rb ar C K x y Bx w) (hBU : ∀ i, Bx i → ¬ U i) (hT : T.length ≤ 68719476736) (hx : x ≤ 68719476736) (hlK : K.length ≤ maxLen) {L' : List Nat} (hL : mtL ar T C K x y = L')
    (bn : Nat) (hbU : ¬ U bn) (hbB : ¬ Bx bn) (hbn : Cnt0 w bn 0) (hps : ps.size = 2)
    (Tk : Nat → List (List Int)) (hT0 : Tk 0 = T) (hTk : ∀ k, k ≤ L'.length → ∃ M, Tk k = T ++ M ∧ (T ++ M).length ≤ 68719476736)
    (a1 : Nat → Value → Act)
    (hassign : ∀ (l k : Nat) (v : Value) (W : World) (K' : Act → World → Prop), K' (a1 k v) W →
      assign.wpIn (Fence.wide.inRound l) (n - 1 - 1) Try.prog (Exit.then K' (fun _ _ _ => False)) { tmps := (ps.zip (mkR L' k v)).foldl (fun t (p, v) => t.setIfInBounds p v) a.tmps, defers := [] } W)
    (hbody : ∀ (l : Nat) (s : Mark) (k : Nat) (hk : k < L'.length) (Us : Nat → Prop) (v : Value) (t : List Int) (X : World), St X Us rb qb ar (Tk k) s.k s.n → OwnI 0 X v t → T[L'[k]]? = some t →
      (∀ i, v.ownBlock = some i → ¬ Us i ∧ i ≠ bn ∧ w.heap.size ≤ i ∧ ¬ (0 < s.n ∧ i = s.k)) → ¬ Us bn → ¬ (0 < s.n ∧ bn = s.k) → Cnt0 X bn k → Turn (fun i => U i ∨ i = bn) w X → (∀ i, Us i → U i ∨ w.heap.size ≤ i) →
      body.wpIn (Fence.wide.inRound l) (n - 1 - 1) Try.prog (relPost rb qb ar (Tk (k + 1)) s k bn Us v X) (a1 k v) X)
    (hdone : ∀ (U1 : Nat → Prop) (W : World), St W U1 rb qb ar (Tk L'.length) qb 0 → (∀ i, U1 i → U i ∨ w.heap.size ≤ i) → Turn (fun i => U i ∨ i = bn) w W → Cnt0 W bn L'.length → ¬ U1 bn → W.heap[w.heap.size]? = some (.deferred (some [])) → ¬ U1 w.heap.size → Q .normal { a with defers := { target := .collected w.heap.size, args := #[] } :: a.defers } W) :
    (Code.rangeFunc g ps assign body).wpIn Fence.wide n Try.prog Q a w := by
  have hUlt := hS.lt
  have hbl : bn < w.heap.size := (Array.getElem?_eq_some_iff.1 hbn).1
  obtain ⟨F, G, R, ⟨vv, mb, L, Fs, hN⟩, hQ, hFG, hU, _⟩ := hS
  have hqG : G qb := by obtain ⟨_, _, q⟩ := hQ; exact q.foot.1
  have hql : qb < w.heap.size := hUlt qb ((hU qb).2 (.inr (.inl hqG)))
  obtain ⟨hseq, eg⟩ := clo_seq hC hN.rl hN.whole hT hx hlK (fun i hi q => hBU i hi ((hU i).2 (.inl q))) qb (fun q => (hFG qb q).1 hqG) hql
  rw [hL] at hseq
  have hmemT : ∀ p ∈ L', p < T.length := by
    rw [← hL]
    intro p hp
    unfold mtL at hp
    split at hp
    · have := (List.mem_filter.1 hp).1
      rw [List.mem_range] at this
      exact this
    · cases hp
  refine range_own h1 hg eg hseq (fun k v => by rw [hps]; rfl) (fun k v E A A' hE ht => hE.keep ht)
    (fun s k U' A' => ∃ Us, St A' Us rb qb ar (Tk k) s.k s.n ∧ SnapAt s A' ∧ (∀ i, U' i ↔ Us i ∨ i = bn ∨ (0 < s.n ∧ i = s.k)) ∧ ¬ Us bn ∧ ¬ (0 < s.n ∧ bn = s.k) ∧ Cnt0 A' bn k ∧ Turn (fun i => U i ∨ i = bn) w A' ∧ (∀ i, Us i → U i ∨ w.heap.size ≤ i) ∧ k ≤ L'.length)
    (fun s k U' A A' hA ht => ?hI) (fun s k U' A hA => ?hinv) (fun i => U i ∨ i = bn) (fun i hi => hi.elim (hUlt i) (fun q => by omega)) (fun i hi => hUlt i ((hU i).2 (.inl hi))) (fun i hi q => q.elim (hBU i hi) (fun q => hbB (q ▸ hi))) (fun s Y V' hY hO hT' => ?opening) a1 (fun l k v W K' hK => hassign l k v W K' hK) (fun l s k hk U' v E X hA hE hEf hz => ?body) (fun s U' W hU' hA hm hnm => ?done)
  case hI =>
    obtain ⟨Us, h1, h2, h3, h4, h4b, h5, h6, h7, h8⟩ := hA
    have hn : ∀ i, U' i → ¬ (w.heap.size ≤ i ∧ ¬ U' i) := fun i hi q => q.2 hi
    refine ⟨Us, h1.turn ht (fun i hi => hn i ((h3 i).2 (.inl hi))), fun j hj => ?_, h3, h4, h4b, ht.heap h5 (hn bn ((h3 bn).2 (.inr (.inl rfl)))), ?_, h7, h8⟩
    · have hk : U' s.k := (h3 s.k).2 (.inr (.inr ⟨by omega, rfl⟩))
      have hlt : s.k < A.heap.size := by obtain ⟨_, _, _, ⟨_, _, _, _, q⟩, _⟩ := h1; exact q.kr.2.2.2
      exact (World.cell?_of_block (ht.block s.k hlt (hn _ hk))).trans (h2 j hj)
    · exact h6.then ht (fun i hi q => by omega)
  case hinv =>
    obtain ⟨Us, h1, h2, h3, h4, h4b, h5, h6, h7, h8⟩ := hA
    have hlt : s.k < A.heap.size := by obtain ⟨_, _, _, ⟨_, _, _, _, q⟩, _⟩ := h1; exact q.kr.2.2.2
    have hz := h6.size
    refine ⟨fun i hi => ?_, ?_, h2⟩
    · rcases (h3 i).1 hi with q | q | q
      · exact h1.lt i q
      · omega
      · omega
    · obtain ⟨M, hM, hl⟩ := hTk k h8
      obtain ⟨F', _, _, q, _⟩ := h1
      rw [hM] at q
      exact ⟨F', M, q.rel, hl⟩
  case opening =>
    obtain ⟨hN', hSn, hsk⟩ := hO
    have hYz := hY.size
    have hVz := hT'.size
    have hkl : s.k < V'.heap.size := by obtain ⟨_, _, _, _, q⟩ := hN'; exact q.kr.2.2.2
    have hGl : ∀ i, G i → i < w.heap.size := fun i hi => hUlt i ((hU i).2 (.inr (.inl hi)))
    have hRl : ∀ i, R i → i < w.heap.size := fun i hi => hUlt i ((hU i).2 (.inr (.inr hi)))
    have hbF : ¬ F bn := fun q => hbU ((hU bn).2 (.inl q))
    have hs0 : ¬ (0 < s.n ∧ bn = s.k) := fun q => by
      rcases hsk q.1 with e | e
      · exact hbF (q.2 ▸ e)
      · omega
    refine ⟨fun i => (Grow F Y.heap.size V' i ∨ G i ∨ R i) ∨ i = bn ∨ (0 < s.n ∧ i = s.k), fun i hi => ?_, fun i => Grow F Y.heap.size V' i ∨ G i ∨ R i, ⟨_, G, R, by rw [hT0]; exact hN', by rw [hT0]; exact (hQ.turn (Turn.of_stay (S := F) hY) (fun i hi q => (hFG i q).1 hi) (fun i hi q => (hFG i q).2 hi)).turn hT' (fun i hi q => (hFG i q).1 hi) (fun i hi q => (hFG i q).2 hi), fun i hi => ⟨fun q => ?_, fun q => ?_⟩, fun i => Iff.rfl, fun h0 q => ?_⟩, hSn, fun i => Iff.rfl, fun q => ?_, hs0, hT'.heap (hY.heap hbn) hbF, ?_, fun i hi => ?_, Nat.zero_le _⟩
    · rcases hi with (q | q | q) | q | q
      · exact q.elim (fun q => .inl (.inl ((hU i).2 (.inl q)))) (fun q => .inr q.1)
      · exact .inl (.inl ((hU i).2 (.inr (.inl q))))
      · exact .inl (.inl ((hU i).2 (.inr (.inr q))))
      · exact .inl (.inr q)
      · rcases hsk q.1 with e | e
        · exact .inl (.inl ((hU i).2 (.inl (q.2 ▸ e))))
        · exact .inr (by omega)
    · exact hi.elim (fun p => (hFG i p).1 q) (fun p => by have := hGl i q; omega)
    · exact hi.elim (fun p => (hFG i p).2 q) (fun p => by have := hRl i q; omega)
    · rcases hsk h0 with e | e
      · exact (hFG _ e).1 q
      · have := hGl _ q; omega
    · rcases q with q | q | q
      · exact q.elim hbF (fun q => by omega)
      · exact hbU ((hU bn).2 (.inr (.inl q)))
      · exact hbU ((hU bn).2 (.inr (.inr q)))
    · exact ((Turn.of_stay (S := fun i => U i ∨ i = bn) hY).trans (hT'.mono (fun i _ q => .inl ((hU i).2 (.inl q)))))
    · rcases hi with q | q | q
      · exact q.elim (fun q => .inl ((hU i).2 (.inl q))) (fun q => .inr (by omega))
      · exact .inl ((hU i).2 (.inr (.inl q)))
      · exact .inl ((hU i).2 (.inr (.inr q)))
  case body =>
    obtain ⟨Us, h1, h2, h3, h4, h4b, h5, h6, h7, h8⟩ := hA
    obtain ⟨hO, hEi⟩ := hE
    have hp : L'.getD k 0 = L'[k] := by simp [hk]
    have hmem : L'[k] ∈ L' := List.getElem_mem hk
    have hlt : L'[k] < T.length := hmemT _ hmem
    rw [hp] at hO
    have hTt : T.getD L'[k] [] = T[L'[k]] := by simp [hlt]
    rw [hTt] at hO
    refine wpIn_mono (hbody l s k hk Us v _ X h1 hO (List.getElem?_eq_getElem hlt) (fun i hi => ?_) h4 h4b h5 h6 h7) ?_
    · have hb := hEf i ((hEi i).2 hi)
      have hnU := fun q => hb.2.2 ((h3 i).2 q)
      exact ⟨fun q => hnU (.inl q), fun q => hnU (.inr (.inl q)), hb.1, fun q => hnU (.inr (.inr q))⟩
    · rintro e a3 X' hp'
      cases e with
      | normal =>
        obtain ⟨Us', g1, g2, g3, g4, g5⟩ := hp'
        have hz3 := g3.size
        have hsk : s.k < X.heap.size := by obtain ⟨_, _, _, ⟨_, _, _, _, q⟩, _⟩ := h1; exact q.kr.2.2.2
        have hbX : bn < X.heap.size := (Array.getElem?_eq_some_iff.1 h5).1
        refine ⟨fun i => Us' i ∨ i = bn ∨ (0 < s.n ∧ i = s.k), g3.mono (fun i _ q => ?_), fun i hi => ?_, Us', g1, fun j hj => (g2 j hj).trans (h2 j hj), fun i => Iff.rfl, fun q => ?_, h4b, g5, ?_, fun i hi => ?_, by omega⟩
        · rcases q with q | q | q
          · exact .inl ((h3 i).2 (.inl q))
          · exact .inl ((h3 i).2 (.inr (.inl q)))
          · exact .inr ((hEi i).2 q)
        · rcases hi with q | q | q
          · exact (g4 i q).elim (fun q => .inl ((h3 i).2 (.inl q))) (fun q => .inr (.inr q))
          · exact .inl ((h3 i).2 (.inr (.inl q)))
          · exact .inl ((h3 i).2 (.inr (.inr q)))
        · exact (g4 bn q).elim h4 (fun q => by omega)
        · refine h6.then g3 (fun i hi q => ?_)
          rcases q with q | q | q
          · exact (h7 i q).elim .inl (fun q => by omega)
          · exact .inr q
          · have := (hEf i ((hEi i).2 q)).1; omega
        · exact (g4 i hi).elim (h7 i) (fun q => .inr (by omega))
      | ret => exact hp'.elim
      | exit id => exact hp'.elim
      | goto t => exact hp'.elim
      | panic ch => exact hp'.elim
      | outgrown => exact hp'.elim
  case done =>
    obtain ⟨Us, h1, h2, h3, h4, h4b, h5, h6, h7, h8⟩ := hA
    exact hdone Us W h1.fresh h7 h6 h5 h4 hm (fun q => hnm ((h3 _).2 (.inl q)))
end
end Go.Proofs.Ytnhmjheipfopoaa.L
