/- The document's table of layer 3: Put. -/
import Derived.Test.YtdnophgcdnghkaaJ3b
namespace Go.Proofs.Ytdnophgcdnghkaa.I
open Go.RowKit Go.Maps

theorem own_push1 {α : Type} {n : Nat} {enc : α → List Value} (he : EncOk n enc) {P : Program} {s t : TypeId} (hu : P.underlying s = some (.slice t)) {z : Value} {bytes : Nat} (hinfo : (P.info? t).map (fun i => (i.zero, i.size, i.bytes)) = some (some z, n, bytes)) (hz : z.cells.size = n)
    {W : World} {v : Value} {xs : List α} {base : Nat} (hown : OwnR t n enc base W v xs) (m : α) (hm : xs.length + 1 ≤ maxLen) (hb : (xs.length + 1) * bytes ≤ 140737488355328) (hbase : base ≤ W.heap.size) (ty : TypeId) :
    ∃ a1 b1 c1 w2, (Builtin.append_ #[s, s] ty #[v, .slice (some ⟨W.heap.size, 0, none⟩) 1 1]).run P (W.alloc (.cells (enc m).toArray t)) = .ok (.slice a1 (xs.length + 1) c1) w2 ∧ OwnR t n enc base w2 (.slice a1 (xs.length + 1) c1) (xs ++ [m]) ∧ a1 = some ⟨b1, 0, none⟩ ∧ w2.os = W.os ∧ w2.tape = W.tape ∧ w2.output = W.output ∧
      (∀ k, k < W.heap.size → v.ownBlock ≠ some k → w2.heap[k]? = W.heap[k]?) ∧ ((Value.slice a1 (xs.length + 1) c1).ownBlock = v.ownBlock ∨ (Value.slice a1 (xs.length + 1) c1).ownBlock = some (W.heap.size + 1)) ∧ W.heap.size < w2.heap.size := by
  have hlit := recs_lit he W [m] t
  rw [show cellsR enc [m] = enc m by simp [cellsR]] at hlit
  obtain ⟨v', w2, hr, ho, hg, _, hat⟩ := append_recs (P := P) (ty := ty) he hu hinfo hz (hown.alloc (.cells (enc m).toArray t)) hlit (c := 1) (fun h => nomatch h) (by simpa using hm) (by simpa using hb) (by rw [World.size_alloc]; omega)
  obtain ⟨a1, b1, k1, rfl, -, -, hp, -⟩ := ho.form he
  have h0 := hp (by simp)
  rw [List.length_append, List.length_singleton] at hr ho hat
  have hsz := hg.size
  rw [World.size_alloc] at hsz hat
  exact ⟨a1, b1, k1, w2, hr, ho, h0, hg.os, hg.tape, hg.output, fun k hk hn => (hg.block k (by rw [World.size_alloc]; omega) (fun e => hn e.symm)).trans (Below.heap_alloc _ _ _ hk), hat, by omega⟩

/-- Which blocks a table of the document's holds. -/
def rfoot (br : Nat) (a : Option Addr) (n c k : Nat) : Prop := k = br ∨ (Value.slice a n c).ownBlock = some k
variable {w w' : World} {br : Nat} {way : Int} {a : Option Addr} {b c : Nat} {ps : List (Int × Int)} {size : Nat}
theorem RTab.ownB (h : RTab w br way a b c ps size) (h0 : 0 < ps.length) : (Value.slice a ps.length c).ownBlock = some b ∧ b ≠ br ∧ b < w.heap.size := by
  have e := h.at0 h0
  have ho : (Value.slice a ps.length c).ownBlock = some b := by rw [e]; rfl
  exact ⟨ho, fun e => h.apart (e ▸ ho), (h.own.lt b ho).2⟩
theorem RTab.lt (h : RTab w br way a b c ps size) (k : Nat) (hk : rfoot br a ps.length c k) : k < w.heap.size := by
  rcases hk with rfl | hk
  · exact (Array.getElem?_eq_some_iff.1 h.box).1
  · exact (h.own.lt k hk).2
theorem RTab.turn {S : Nat → Prop} (h : RTab w br way a b c ps size) (ht : Turn S w w') (hn : ∀ k, rfoot br a ps.length c k → ¬ S k) : RTab w' br way a b c ps size :=
  ⟨ht.heap h.box (hn br (.inl rfl)), ht.row h.own (fun k hk => hn k (.inr hk)), h.at0, h.apart, h.keys, h.wayOk⟩
theorem RTab.setV (h : RTab w br way a b c ps size) {i : Nat} (hi : i < ps.length) {v : Int} (hv : KeyOk v) : RTab (w.setCell ⟨b, i * 2 + 1, none⟩ (.int .i64 v)) br way a b c (ps.set i (ps[i].1, v)) size ∧ Turn (rfoot br a ps.length c) w (w.setCell ⟨b, i * 2 + 1, none⟩ (.int .i64 v)) := by
  obtain ⟨ho, hne, -⟩ := h.ownB (by omega)
  have e := h.at0 (by omega)
  refine ⟨⟨?_, ?_, fun _ => e, by rw [List.length_set]; exact h.apart, fun p hp => ?_, h.wayOk⟩, (Turn.refl _ w).set (.inr ho) _ _⟩
  · rw [List.length_set]
    exact (Below.heap_setCell _ _ _ _ (fun e => hne e.symm)).trans h.box
  · have := h.own
    unfold OwnR at this ⊢
    rw [List.length_set, cells_setV ps i hi v]
    subst e
    exact row_setR this (cellsR_len encPrOk ps) _ _
  · rcases List.mem_or_eq_of_mem_set hp with hp | rfl
    · exact h.keys p hp
    · exact ⟨(h.keys _ (List.getElem_mem hi)).1, hv⟩
theorem RTab.setS (h : RTab w br way a b c ps size) (s2 : Nat) : RTab (w.setCell ⟨br, 2, none⟩ (.int .i64 (s2 : Int))) br way a b c ps s2 ∧ Turn (rfoot br a ps.length c) w (w.setCell ⟨br, 2, none⟩ (.int .i64 (s2 : Int))) := by
  refine ⟨⟨?_, ?_, h.at0, h.apart, h.keys, h.wayOk⟩, (Turn.refl _ w).set (.inl rfl) _ _⟩
  · simp [World.setCell, Array.getElem?_modify, h.box]
  · exact ((Turn.refl (fun k => k = br) w).set rfl _ _).row h.own (fun k hk e => h.apart (e ▸ hk))
theorem RTab.frozen (h : RTab w br way a b c ps size) (j : Nat) : w.frozen? ⟨br, j, none⟩ = false := by simp [World.frozen?, h.box]
theorem RTab.push (h : RTab w br way a b c ps size) {key val : Int} (hk : KeyOk key) (hv : KeyOk val) (hn : ps.length ≤ 1099511627776) :
    ∃ a' b' c' W2, (Builtin.append_ #[52, 52] 52 #[.slice a ps.length c, .slice (some ⟨w.heap.size, 0, none⟩) 1 1]).run Try.prog (w.alloc (.cells #[.int .i64 key, .int .i64 val] 77)) = .ok (.slice a' (ps.length + 1) c') W2 ∧
      W2.cell? ⟨br, 1, none⟩ = some (.slice a ps.length c) ∧ W2.frozen? ⟨br, 1, none⟩ = false ∧ RTab (W2.setCell ⟨br, 1, none⟩ (.slice a' (ps.length + 1) c')) br way a' b' c' (ps ++ [(key, val)]) size ∧ Turn (rfoot br a ps.length c) w (W2.setCell ⟨br, 1, none⟩ (.slice a' (ps.length + 1) c')) ∧
      ((Value.slice a' (ps.length + 1) c').ownBlock = (Value.slice a ps.length c).ownBlock ∨ ∀ k, (Value.slice a' (ps.length + 1) c').ownBlock = some k → w.heap.size ≤ k) := by
  obtain ⟨a', b', c', W2, hr, hO, ha, e1, e2, e3, hblk, hat, hsz⟩ := own_push1 encPrOk Try.underlying52 infoPr rfl h.own (key, val) (by unfold maxLen; omega) (by omega) (Nat.zero_le _) 52
  have hbr := (Array.getElem?_eq_some_iff.1 h.box).1
  have hbx := (hblk br hbr h.apart).trans h.box
  have hap : (Value.slice a' (ps.length + 1) c').ownBlock ≠ some br := fun e => by
    rcases hat with g | g
    · exact h.apart (g ▸ e)
    · rw [g] at e
      have := Option.some.inj e
      omega
  refine ⟨a', b', c', W2, hr, by simp [World.cell?, hbx], by simp [World.frozen?, hbx], ⟨?_, ?_, fun _ => ha, by rw [List.length_append]; exact hap, fun p hp => ?_, h.wayOk⟩, ?_, ?_⟩
  · simp [World.setCell, Array.getElem?_modify, hbx]
  · have := ((Turn.refl (fun k => k = br) W2).set rfl 1 (.slice a' (ps.length + 1) c')).row hO (fun k hk e => hap (e ▸ hk))
    unfold OwnR
    rw [List.length_append, List.length_singleton]
    rw [List.length_append, List.length_singleton] at this
    exact this
  · rcases List.mem_append.1 hp with hp | hp
    · exact h.keys p hp
    · rw [List.mem_singleton] at hp
      subst hp
      exact ⟨hk, hv⟩
  · have ht : Turn (rfoot br a ps.length c) w W2 := ⟨e1, e2, e3, Nat.le_of_lt hsz, fun k hk hn => hblk k hk (fun e => hn (.inr e))⟩
    exact ht.set (.inl rfl) _ _
  · rcases hat with g | g
    · exact .inl g
    · exact .inr fun k hk => by rw [g] at hk; have := Option.some.inj hk; omega

set_option maxRecDepth 100000 in
set_option maxHeartbeats 1000000 in
theorem rPut_yes (h : RTab w br way a b c ps size) (key val : Int) (hk : KeyOk key) (hv : KeyOk val) (hn : ps.length ≤ 1099511627776) {i : Nat} (ho : atN way ps key = some i) :
    Calls Try.prog 19 #[.pointer (some ⟨br, 0, none⟩), .int .i64 key, .int .i64 val] w fun e w' => e = .returned (.tuple #[.int .i64 (getV ps (some i)), .bool true]) ∧ RTab w' br way a b c (ps.set i ((ps[i]?.getD (0, 0)).1, val)) size ∧ Turn (rfoot br a ps.length c) w w' := by
  have hat := rAt_any h key hk hn
  rw [ho] at hat
  have hi := atN_lt ho
  dsimp only [atZ, getV] at hat ⊢
  rw [List.getElem?_eq_getElem hi, Option.getD_some]
  have HT : Hid (RTab w br way a b c ps size) := h
  have hi0 : (0 : Int) ≤ (i : Int) := by omega
  have hii : (i : Int) < (ps.length : Int) := by omega
  clear h ho hk
  go_enter Try.func19, Try.ntmps19
  go_wp2_with (go_at_call 45; refine hat.mono ?_; rintro e w1 ⟨rfl, s1⟩; obtain ⟨c0, c1, c2⟩ := (HT.out.stay s1).cells; have hf := own_frozen (HT.out.stay s1).own (G := b) (n := ps.length) (k := c) (by rw [HT.out.at0 (by omega)]) (i * 2 + 1); obtain ⟨rfl, d0, d1⟩ := (HT.out.stay s1).pair hi; have HS : Hid (RTab (w1.setCell ⟨b, i * 2 + 1, none⟩ (.int .i64 val)) br way (some ⟨b, 0, none⟩) b c (ps.set i (ps[i].1, val)) size ∧ Turn (rfoot br (some ⟨b, 0, none⟩) ps.length c) w (w1.setCell ⟨b, i * 2 + 1, none⟩ (.int .i64 val))) := ⟨((HT.out.stay s1).setV hi hv).1, (Turn.of_stay s1).trans ((HT.out.stay s1).setV hi hv).2⟩)
  go_ret2
  exact ⟨rfl, HS.out⟩
def putS (n size : Nat) : Nat := if 3 * size < 4 * (n + 1) then 2 * size else size
set_option maxRecDepth 100000 in
set_option maxHeartbeats 1000000 in
theorem rPut_no (h : RTab w br way a b c ps size) (key val : Int) (hk : KeyOk key) (hv : KeyOk val) (hn : ps.length ≤ 1099511627776) (hsz : size ≤ 4398046511104) (ho : atN way ps key = none) :
    Calls Try.prog 19 #[.pointer (some ⟨br, 0, none⟩), .int .i64 key, .int .i64 val] w fun e w' => e = .returned (.tuple #[.int .i64 0, .bool false]) ∧ ∃ a' b' c', RTab w' br way a' b' c' (ps ++ [(key, val)]) (putS ps.length size) ∧ Turn (rfoot br a ps.length c) w w' ∧
      ((Value.slice a' (ps.length + 1) c').ownBlock = (Value.slice a ps.length c).ownBlock ∨ ∀ k, (Value.slice a' (ps.length + 1) c').ownBlock = some k → w.heap.size ≤ k) := by
  have hat := rAt_any h key hk hn
  rw [ho] at hat
  dsimp only [atZ] at hat
  obtain ⟨R, hR⟩ : ∃ R : Ending → World → Prop, R = fun e w' => e = .returned (.tuple #[.int .i64 0, .bool false]) ∧ ∃ a' b' c', RTab w' br way a' b' c' (ps ++ [(key, val)]) (putS ps.length size) ∧ Turn (rfoot br a ps.length c) w w' ∧
      ((Value.slice a' (ps.length + 1) c').ownBlock = (Value.slice a ps.length c).ownBlock ∨ ∀ k, (Value.slice a' (ps.length + 1) c').ownBlock = some k → w.heap.size ≤ k) := ⟨_, rfl⟩
  rw [← hR]
  have HR : Hid (R = fun e w' => e = .returned (.tuple #[.int .i64 0, .bool false]) ∧ ∃ a' b' c', RTab w' br way a' b' c' (ps ++ [(key, val)]) (putS ps.length size) ∧ Turn (rfoot br a ps.length c) w w' ∧
      ((Value.slice a' (ps.length + 1) c').ownBlock = (Value.slice a ps.length c).ownBlock ∨ ∀ k, (Value.slice a' (ps.length + 1) c').ownBlock = some k → w.heap.size ≤ k)) := hR
  have HT : Hid (RTab w br way a b c ps size) := h
  have HK : Hid (KeyOk key ∧ KeyOk val) := ⟨hk, hv⟩
  obtain ⟨n, hn'⟩ : ∃ n, n = ps.length := ⟨_, rfl⟩
  have HN : Hid (n = ps.length) := hn'
  rw [← hn'] at hn
  clear h hk hv hR hn'
  have e4 : IntKind.i64.wrap (4 * ((n : Int) + 1)) = 4 * ((n : Int) + 1) := by simp only [IntKind.wrap_i64]; omega
  have e1 : IntKind.i64.wrap ((n : Int) + 1) = (n : Int) + 1 := by simp only [IntKind.wrap_i64]; omega
  have e3 : IntKind.i64.wrap (3 * (size : Int)) = 3 * (size : Int) := by simp only [IntKind.wrap_i64]; omega
  by_cases hb : 3 * size < 4 * (n + 1)
  · have hbi : (3 : Int) * (size : Int) < 4 * ((n : Int) + 1) := by omega
    obtain ⟨s2, hs2⟩ : ∃ s2 : Nat, s2 = 2 * size := ⟨_, rfl⟩
    have e2 : IntKind.i64.wrap (2 * (size : Int)) = (s2 : Int) := by simp only [IntKind.wrap_i64]; omega
    have H2 : Hid (s2 = 2 * size) := hs2
    clear hs2
    go_enter Try.func19, Try.ntmps19
    go_wp2_with (go_at_call 45; refine hat.mono ?_; rintro e w1 ⟨rfl, s1⟩; obtain ⟨c0, c1, c2⟩ := (HT.out.stay s1).cells; rw [← HN.out] at c1; have HS : Hid (Stay w w1) := s1; have f2 := (HT.out.stay s1).frozen 2; clear hat s1)
    go_region
    have tV : RTab (w1.setCell ⟨br, 2, none⟩ (.int .i64 (s2 : Int))).drew br way a b c ps s2 ∧ Turn (rfoot br a ps.length c) w (w1.setCell ⟨br, 2, none⟩ (.int .i64 (s2 : Int))).drew := ⟨((HT.out.stay HS.out).setS s2).1.stay (Stay.drew _), ((Turn.of_stay HS.out).trans ((HT.out.stay HS.out).setS s2).2).trans (Turn.of_stay (Stay.drew _))⟩
    obtain ⟨a', b', c', W2, hap, hc, hf, hI, ht, hat⟩ := tV.1.push HK.out.1 HK.out.2 (by have := HN.out; omega)
    have HX : Hid (R (.returned (.tuple #[.int .i64 0, .bool false])) (W2.setCell ⟨br, 1, none⟩ (.slice a' (n + 1) c'))) := by
      show R _ _
      rw [HR.out, HN.out]
      refine ⟨rfl, a', b', c', ?_, tV.2.trans ht, ?_⟩
      · rw [show putS ps.length size = s2 from by unfold putS; rw [← HN.out]; rw [if_pos hb, H2.out]]
        exact hI
      · rcases hat with g | g
        · exact .inl g
        · exact .inr fun k hk => Nat.le_trans tV.2.size (g k hk)
    obtain ⟨d0, d1, d2⟩ := tV.1.cells
    rw [← HN.out] at hap hc d1
    clear hI ht hat tV HR
    generalize hq : n + 1 = q  at hap HX
    have hap : (Builtin.append_ #[52, 52] 52 #[.slice a n c, .slice (some ⟨w1.heap.size, 0, none⟩) 1 1]).run Try.prog ((w1.setCell ⟨br, 2, none⟩ (.int .i64 (s2 : Int))).alloc (.cells #[.int .i64 key, .int .i64 val] 77)).drew = .ok (.slice a' q c') W2 := by
      have hh : ((w1.setCell ⟨br, 2, none⟩ (.int .i64 (s2 : Int))).drew).heap.size = w1.heap.size := by show (w1.setCell ⟨br, 2, none⟩ (.int .i64 (s2 : Int))).heap.size = _; simp [World.setCell]
      rw [hh] at hap
      exact hap
    clear hq c0 c1
    go_wp2_with (at_builtin; refine wpList_append_run rfl (.tmp 57) (.tmp 61) 52 52 rfl _ _ rfl rfl hap ?_; clear hap)
    exact HX.out
  · have hbi : ¬ (3 : Int) * (size : Int) < 4 * ((n : Int) + 1) := by omega
    go_enter Try.func19, Try.ntmps19
    go_wp2_with (go_at_call 45; refine hat.mono ?_; rintro e w1 ⟨rfl, s1⟩; obtain ⟨c0, c1, c2⟩ := (HT.out.stay s1).cells; rw [← HN.out] at c1; have HS : Hid (Stay w w1) := s1; clear hat s1)
    go_region
    have tV : RTab w1.drew br way a b c ps size ∧ Turn (rfoot br a ps.length c) w w1.drew := ⟨HT.out.stay (HS.out.trans (Stay.drew _)), Turn.of_stay (HS.out.trans (Stay.drew _))⟩
    obtain ⟨a', b', c', W2, hap, hc, hf, hI, ht, hat⟩ := tV.1.push HK.out.1 HK.out.2 (by have := HN.out; omega)
    have HX : Hid (R (.returned (.tuple #[.int .i64 0, .bool false])) (W2.setCell ⟨br, 1, none⟩ (.slice a' (n + 1) c'))) := by
      show R _ _
      rw [HR.out, HN.out]
      refine ⟨rfl, a', b', c', ?_, tV.2.trans ht, ?_⟩
      · rw [show putS ps.length size = size from by unfold putS; rw [← HN.out]; rw [if_neg hb]]
        exact hI
      · rcases hat with g | g
        · exact .inl g
        · exact .inr fun k hk => Nat.le_trans tV.2.size (g k hk)
    obtain ⟨d0, d1, d2⟩ := tV.1.cells
    rw [← HN.out] at hap hc d1
    clear hI ht hat tV HR
    generalize hq : n + 1 = q  at hap HX
    have hap : (Builtin.append_ #[52, 52] 52 #[.slice a n c, .slice (some ⟨w1.heap.size, 0, none⟩) 1 1]).run Try.prog (w1.alloc (.cells #[.int .i64 key, .int .i64 val] 77)).drew = .ok (.slice a' q c') W2 := hap
    clear hq c0 c1
    go_wp2_with (at_builtin; refine wpList_append_run rfl (.tmp 57) (.tmp 61) 52 52 rfl _ _ rfl rfl hap ?_; clear hap)
    exact HX.out
end Go.Proofs.Ytdnophgcdnghkaa.I
