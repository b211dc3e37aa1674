/- The document's table of layer 3: Take, home, New. -/
import Derived.Test.YtdnophgcdnghkaaJ3c
namespace Go.Proofs.Ytdnophgcdnghkaa.I
open Go.RowKit Go.Maps

/-- A list without the one at i, of its first j. -/
def restG {α : Type} (l : List α) (i j : Nat) : List α := l.take (min j i) ++ (l.drop (i + 1)).take (j - (i + 1))
section
variable {α : Type} {l : List α} {i j : Nat}
theorem restG_zero : restG l i 0 = [] := by simp [restG]
theorem restG_same : restG l i (i + 1) = restG l i i := by simp [restG]
theorem restG_step (h : j < l.length) (hne : j ≠ i) : restG l i (j + 1) = restG l i j ++ [l[j]] := by
  unfold restG
  rcases Nat.lt_or_gt_of_ne hne with h1 | h1
  · rw [Nat.min_eq_left (by omega), Nat.min_eq_left (by omega), show j + 1 - (i + 1) = 0 by omega, show j - (i + 1) = 0 by omega, List.take_zero, List.append_nil, List.append_nil, List.take_add_one, List.getElem?_eq_getElem h, Option.toList_some]
  · rw [Nat.min_eq_right (by omega), Nat.min_eq_right (by omega), show j + 1 - (i + 1) = j - (i + 1) + 1 by omega, List.take_add_one, List.getElem?_drop, show i + 1 + (j - (i + 1)) = j by omega, List.getElem?_eq_getElem h, Option.toList_some, List.append_assoc]
theorem restG_all (h : i < l.length) : restG l i l.length = l.eraseIdx i := by
  unfold restG
  rw [Nat.min_eq_right (by omega), List.take_of_length_le (l := l.drop (i + 1)) (by rw [List.length_drop]; omega), List.eraseIdx_eq_take_drop_succ]
theorem restG_len : (restG l i j).length ≤ j := by
  unfold restG
  rw [List.length_append, List.length_take, List.length_take]
  omega
end
theorem OwnR.down {α : Type} {t : TypeId} {n : Nat} {enc : α → List Value} {b0 base : Nat} {w : World} {v : Value} {xs : List α} (h : w.ownsRow base t n v xs.length (cellsR enc xs)) (hb : b0 ≤ base) : OwnR t n enc b0 w v xs := by
  refine ⟨h.1, ?_⟩
  rcases h.2 with hx | ⟨b, c, cur, hv, hbb, rest⟩
  · exact .inl hx
  · exact .inr ⟨b, c, cur, hv, Nat.le_trans hb hbb, rest⟩
variable {w w' : World} {br : Nat} {way : Int} {a : Option Addr} {b c : Nat} {ps : List (Int × Int)} {size : Nat}
/-- The pairs are another list, laid anew. -/
theorem RTab.setP (h : RTab w br way a b c ps size) {W : World} (hs : Stay w W) {v : Value} {rs : List (Int × Int)} (hO : OwnR 77 2 encPr w.heap.size W v rs) (hk : ∀ p ∈ rs, p ∈ ps) :
    ∃ a' b' c', v = .slice a' rs.length c' ∧ RTab (W.setCell ⟨br, 1, none⟩ v) br way a' b' c' rs size ∧ Turn (rfoot br a ps.length c) w (W.setCell ⟨br, 1, none⟩ v) ∧ ∀ k, v.ownBlock = some k → w.heap.size ≤ k := by
  obtain ⟨a', b', c', rfl, -, -, hp, -⟩ := hO.form encPrOk
  have hbr := (Array.getElem?_eq_some_iff.1 h.box).1
  have hbx := (hs.block br hbr).trans h.box
  have hap : (Value.slice a' rs.length c').ownBlock ≠ some br := fun e => by
    have := (hO.lt br e).1
    omega
  refine ⟨a', b', c', rfl, ⟨?_, ?_, hp, hap, fun p hp' => h.keys p (hk p hp'), h.wayOk⟩, (Turn.of_stay hs).set (.inl rfl) _ _, fun k hk => (hO.lt k hk).1⟩
  · simp [World.setCell, Array.getElem?_modify, hbx]
  · have := ((Turn.refl (fun k => k = br) W).set rfl 1 (.slice a' rs.length c')).row hO (fun k hk e => hap (e ▸ hk))
    exact Go.Proofs.Ytdnophgcdnghkaa.I.OwnR.down this (Nat.zero_le _)
set_option maxRecDepth 100000 in
theorem rTake_no (h : RTab w br way a b c ps size) (key : Int) (hk : KeyOk key) (hn : ps.length ≤ 1099511627776) (ho : atN way ps key = none) : Calls Try.prog 28 #[.pointer (some ⟨br, 0, none⟩), .int .i64 key] w fun e w' => e = .returned (.tuple #[.int .i64 0, .bool false]) ∧ Stay w w' := by
  have hat := rAt_any h key hk hn
  rw [ho] at hat
  dsimp only [atZ] at hat
  clear h
  go_enter Try.func28, Try.ntmps28
  go_wp2_with (go_at_call 45; refine hat.mono ?_; rintro e w1 ⟨rfl, s1⟩)
  go_ret2
  exact ⟨rfl, s1⟩
def TakeR (w : World) (br : Nat) (way : Int) (a : Option Addr) (c : Nat) (ps : List (Int × Int)) (size i : Nat) (e : Ending) (w' : World) : Prop :=
  e = .returned (.tuple #[.int .i64 (getV ps (some i)), .bool true]) ∧ ∃ a' b' c', RTab w' br way a' b' c' (ps.eraseIdx i) size ∧ Turn (rfoot br a ps.length c) w w' ∧ ∀ k, (Value.slice a' (ps.eraseIdx i).length c').ownBlock = some k → w.heap.size ≤ k
set_option maxRecDepth 100000 in
set_option maxHeartbeats 1000000 in
theorem rTake_yes (h : RTab w br way a b c ps size) (key : Int) (hk : KeyOk key) (hn : ps.length ≤ 1099511627776) {i : Nat} (ho : atN way ps key = some i) : Calls Try.prog 28 #[.pointer (some ⟨br, 0, none⟩), .int .i64 key] w (TakeR w br way a c ps size i) := by
  have hat := rAt_any h key hk hn
  rw [ho] at hat
  have hi := atN_lt ho
  obtain ⟨R, hR⟩ : ∃ R, R = TakeR w br way a c ps size i := ⟨_, rfl⟩
  rw [← hR]
  have HR : Hid (R = TakeR w br way a c ps size i) := hR
  have HT : Hid (RTab w br way a b c ps size) := h
  obtain ⟨n, hn'⟩ : ∃ n, n = ps.length := ⟨_, rfl⟩
  have HN : Hid (n = ps.length) := hn'
  rw [← hn'] at hn
  have hi0 : ¬ ((i : Int) < 0) := by omega
  have hii : (i : Int) < (n : Int) := by omega
  dsimp only [atZ] at hat
  clear h ho hk hR hn'
  go_enter Try.func28, Try.ntmps28
  go_wp2_with (go_at_call 45; refine hat.mono ?_; rintro e w1 ⟨rfl, s1⟩; have HS : Hid (Stay w w1) := s1; obtain ⟨c0, c1, c2⟩ := (HT.out.stay s1).cells; rw [← HN.out] at c1; obtain ⟨rfl, d0, d1⟩ := (HT.out.stay s1).pair hi; clear hat s1)
  have HO : Hid (getV ps (some i) = ps[i].2) := by show (ps[i]?.getD (0, 0)).2 = ps[i].2; rw [List.getElem?_eq_getElem hi, Option.getD_some]
  clear c0 c1 c2 d0 d1
  generalize ps[i].2 = old at *
  go_loopw [8, 9] (fun vv u wr => ∃ (j : Nat) (v0 : Value), v0 = vv ∧ j ≤ n ∧ u = .int .i64 (j : Int) ∧ OwnR 77 2 encPr w1.heap.size wr v0 (restG ps i j) ∧ Stay w1 wr) (fun _ u _ => n - (intOf u).toNat)
  case atStart => exact ⟨0, _, rfl, Nat.zero_le _, rfl, by rw [restG_zero]; exact OwnR.nil, Stay.refl _⟩
  case round =>
    obtain ⟨j, v0, rfl, hj, rfl, hO, hst⟩ := hrel
    obtain ⟨c0, c1, c2⟩ := (HT.out.stay (HS.out.trans hst)).cells
    rw [← HN.out] at c1
    by_cases hlt : j < n
    · have hji : (j : Int) < (n : Int) := by omega
      have hjl : j < ps.length := by have := HN.out; omega
      by_cases hne : j = i
      · have hnb : ((j : Int) != (i : Int)) = false := by simp [hne]
        have hre : restG ps i (j + 1) = restG ps i j := by rw [hne]; exact restG_same
        have HX : Hid (OwnR 77 2 encPr w1.heap.size wr v0 (restG ps i (j + 1)) ∧ Stay w1 wr) := ⟨by rw [hre]; exact hO, hst⟩
        clear hO hst hne hre
        go_wp2_with fail
        go_roundw
        case rel => exact ⟨j + 1, _, rfl, by omega, by simp, HX.out⟩
        case measure => simp [intOf]; omega
      · have hnb : ((j : Int) != (i : Int)) = true := by simp; omega
        obtain ⟨-, d0, d1⟩ := (HT.out.stay (HS.out.trans hst)).pair hjl
        have hrl := restG_len (l := ps) (i := i) (j := j)
        obtain ⟨a3, b3, c3, w5, hap, hO5, -, q1, q2, q3, hB5, -, hz5⟩ := own_push1 encPrOk Try.underlying52 infoPr rfl hO ps[j] (by unfold maxLen; omega) (by omega) hst.size 52
        have HX : Hid (OwnR 77 2 encPr w1.heap.size w5 (.slice a3 ((restG ps i j).length + 1) c3) (restG ps i (j + 1)) ∧ Stay w1 w5) := ⟨by rw [restG_step hjl hne]; exact hO5, ⟨q1.trans hst.os, q2.trans hst.tape, q3.trans hst.output, Nat.le_trans hst.size (Nat.le_of_lt hz5), fun k hk => (hB5 k (Nat.lt_of_lt_of_le hk hst.size) (fun e => by have := (hO.lt k e).1; omega)).trans (hst.block k hk)⟩⟩
        clear hO hst hO5 hB5 hne hrl q1 q2 q3 hz5
        dsimp only [encPr] at hap
        generalize ps[j] = p at *
        obtain ⟨p1, p2⟩ := p
        dsimp only at *
        generalize (restG ps i j).length + 1 = q at *
        go_wp2_with (at_builtin; refine wpList_append_run rfl (.tmp 35) (.tmp 43) 52 52 rfl _ _ rfl rfl hap ?_; clear hap)
        go_roundw
        case rel => exact ⟨j + 1, _, rfl, by omega, by simp, HX.out⟩
        case measure => simp [intOf]; omega
    · obtain rfl : n = j := by omega
      rw [HN.out, restG_all hi] at hO
      obtain ⟨a', b', c', rfl, hT', ht', hf'⟩ := (HT.out.stay HS.out).setP hst hO (fun p hp => List.mem_of_mem_eraseIdx hp)
      have hfz : wr.frozen? ⟨br, 1, none⟩ = false := (HT.out.stay (HS.out.trans hst)).frozen 1
      have HX : Hid (R (.returned (.tuple #[.int .i64 old, .bool true])) (wr.setCell ⟨br, 1, none⟩ (.slice a' (ps.eraseIdx i).length c'))) := by
        show R _ _
        rw [HR.out]
        exact ⟨by rw [HO.out], a', b', c', hT', (Turn.of_stay HS.out).trans ht', fun k hk => Nat.le_trans HS.out.size (hf' k hk)⟩
      clear hO hst hT' ht' hf' HR
      generalize (ps.eraseIdx i).length = q at *
      go_wp2_with fail
      exact HX.out
end Go.Proofs.Ytdnophgcdnghkaa.I
