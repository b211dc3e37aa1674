/- Ranks and Rising by the document: the walks. -/
import Derived.Test.YtdmopioiaaecfaaRanksRefA
import Derived.Test.YtdmopioiaaecfaaListsWalk
namespace Go.Proofs.Ytdmopioiaaecfaa
open Go.RowKit Go.Maps

def ivals (zs : List Nat) : List Value := (zs.map Int.ofNat).map (Value.int .i64)

section
variable {w : World} {br : Nat} {sv : Value} {ls : List ByteArray}

theorem rtab_drewN (h : RTab w br sv ls) (n : Nat) : RTab (w.drewN n) br sv ls := h.kept (Turn.drewN (fun _ => False) w n) (fun _ _ e => e)

set_option maxRecDepth 100000 in
set_option maxHeartbeats 1000000 in
theorem rranks_yes (h : RTab w br sv ls) (hlen : ls.length ≤ 8796093022208) :
    Calls Try.prog 43 #[.pointer (some ⟨br, 0, none⟩)] w fun e w' => ∃ v, e = .returned v ∧ w'.ownsRow w.heap.size 3 1 v ls.length (ivals (cnts ls ls.length)) ∧ Below w.heap.size w w' := by
  obtain ⟨i0, hi, hz0, hz1, hz2⟩ := info_parts info3
  have H : Hid (RTab w br sv ls) := h
  have hlb : (ls.length : Int) ≤ 8796093022208 := by omega
  clear h
  go_enter Try.func43, Try.ntmps43
  go_wp2
  go_loopw [3, 4] (fun v i wr => ∃ k : Nat, k ≤ ls.length ∧ i = .int .i64 k ∧ wr.ownsRow w.heap.size 3 1 v k (ivals (cnts ls k)) ∧ Below w.heap.size w wr) (fun _ i _ => ls.length - (intOf i).toNat)
  case atStart => exact ⟨0, Nat.zero_le _, rfl, by simpa [ivals, cnts] using World.ownsRow_nil w w.heap.size 3 1, Below.refl _ _⟩
  case round =>
    obtain ⟨k, hk, rfl, hI, hB⟩ := hrel
    obtain ⟨av, cv, rfl⟩ := row_shape hI
    have hR := H.out.below hB
    have hrl := rlen_yes hR
    have HB : Hid (wr.ownsRow w.heap.size 3 1 (.slice av k cv) k (ivals (cnts ls k)) ∧ Below w.heap.size w wr ∧ RTab wr br sv ls) := ⟨hI, hB, hR⟩
    clear hI hB
    by_cases hlt : k < ls.length
    · have hkb : (k : Int) < (ls.length : Int) := by omega
      obtain ⟨ra, rcap, hsv, hmax, rb, hra, hrc⟩ := hR.slice
      obtain rfl := hra (by omega)
      have c0 := hR.c0
      rw [hsv] at c0
      have hck : wr.cell? ⟨rb, k, none⟩ = some (.string (tx ls k)) := by rw [hrc k hlt]; simp [tx, hlt]
      have HC : Hid (∀ j (hj : j < ls.length), wr.cell? ⟨rb, j, none⟩ = some (.string (tx ls j))) := fun j hj => by rw [hrc j hj]; simp [tx, hj]
      clear hR hrc hra hmax hsv
      go_wp2_with (go_at_call 14; refine Calls.mono hrl ?_; rintro e w' ⟨rfl, hw⟩; have hw' := hw.symm; subst hw')
      clear hrl
      go_loopw [5, 6] (fun n i wx => ∃ m : Nat, m ≤ ls.length ∧ i = .int .i64 m ∧ n = .int .i64 (cnt ls k m) ∧ ∃ q, wx = wr.drewN q) (fun _ i _ => ls.length - (intOf i).toNat)
      case atStart => exact ⟨0, Nat.zero_le _, rfl, rfl, 0, rfl⟩
      case round =>
        obtain ⟨m, hm, rfl, rfl, q, rfl⟩ := hrel
        have hrl2 := rlen_yes (rtab_drewN HB.out.2.2 q)
        have hcl := cnt_le ls k m
        by_cases hlt2 : m < ls.length
        · have hmb : (m : Int) < (ls.length : Int) := by omega
          have hcm := HC.out m hlt2
          have hlss := below_bytes (tx ls m) (tx ls k)
          have HS : Hid (cnt ls k (m + 1) = cnt ls k m + if decide (cmpT (tx ls m) (tx ls k) < 0) then 1 else 0) := cnt_succ ls k m
          by_cases hbl : decide (cmpT (tx ls m) (tx ls k) < 0) = true
          · rw [hbl] at hlss HS
            have hcn : ((cnt ls k m : Nat) : Int) ≤ 8796093022208 := by omega
            generalize tx ls m = sm at hcm hlss hbl
            generalize tx ls k = sk at hck hlss hbl
            clear hcl hbl
            go_wp2_with (go_at_call 14; refine Calls.mono hrl2 ?_; rintro e w' ⟨rfl, hw⟩; have hw' := hw.symm; subst hw')
            go_quiet (fail)
            go_wp2
            go_roundw
            case rel => exact ⟨m + 1, by omega, by go_num, (by rw [HS.out]; simp), _, rfl⟩
            case measure => simp [intOf]; omega
          · have hbl' : decide (cmpT (tx ls m) (tx ls k) < 0) = false := by simpa using hbl
            rw [hbl'] at hlss HS
            generalize tx ls m = sm at hcm hlss hbl hbl'
            generalize tx ls k = sk at hck hlss hbl hbl'
            clear hcl hbl hbl'
            go_wp2_with (go_at_call 14; refine Calls.mono hrl2 ?_; rintro e w' ⟨rfl, hw⟩; have hw' := hw.symm; subst hw')
            go_quiet (fail)
            go_wp2
            go_roundw
            case rel => exact ⟨m + 1, by omega, by go_num, (by rw [HS.out]; simp), _, rfl⟩
            case measure => simp [intOf]; omega
        · obtain rfl : m = ls.length := by omega
          clear hcl
          have hrow := row_drewN (m := q) HB.out.1
          have hB2 : Below w.heap.size w (wr.drewN q) := below_drewN HB.out.2.1
          have hs0 := hB2.size
          have HB2 : Hid (Below w.heap.size w (wr.drewN q)) := hB2
          have HCn : Hid (ivals (cnts ls (k + 1)) = ivals (cnts ls k) ++ [.int .i64 (cnt ls k ls.length)]) := by show ivals _ = _; rw [cnts_succ]; simp [ivals]
          clear hB2 hck c0
          generalize wr.drewN q = wz at hrow HB2 hs0 hrl2 ⊢
          generalize cnt ls k ls.length = cc at HCn ⊢
          have hkm : (k + 1) * 8 ≤ 140737488355328 := Nat.le_trans (Nat.mul_le_mul_right 8 (by omega : k + 1 ≤ 8796093022208)) (by decide)
          go_wp2_with (first | (go_at_call 14; refine Calls.mono hrl2 ?_; rintro e w' ⟨rfl, hw⟩; have hw' := hw.symm; subst hw') | (at_builtin; refine wpList_append_own _ rfl _ _ 31 rfl w.heap.size 3 i0 (.int .i64 0) 1 8 Try.underlying31 hi hz0 hz1 hz2 rfl (by decide) _ _ _ rfl (hrow.alloc _) ⟨wz.heap.size, 0, none⟩ 1 1 [.int .i64 cc] rfl rfl (cell_one_new _ _ _) (by simp [Value.oneCell']) (by unfold maxLen; omega) hkm (by rw [World.size_alloc]; omega) ?_; intro v' w3 hown hgrow hnil))
          have HB3 : Hid (Below w.heap.size w w3) := (HB2.out.alloc hs0 _).grown hgrow (by rw [World.size_alloc]; omega) (fun j e => (hrow.lt j e).1)
          clear hgrow hnil hrow
          go_roundw
          case rel => exact ⟨k + 1, by omega, by go_num, by rw [HCn.out]; exact hown, HB3.out⟩
          case measure => simp [intOf]; omega
    · obtain rfl : k = ls.length := by omega
      go_wp2_with (go_at_call 14; refine Calls.mono hrl ?_; rintro e w' ⟨rfl, hw⟩; have hw' := hw.symm; subst hw')
      go_ret
      exact ⟨_, rfl, HB.out.1, HB.out.2.1⟩

theorem row_ints {w : World} {base n : Nat} {v : Value} {zs : List Int} (h : w.ownsRow base 3 1 v n (zs.map (Value.int .i64))) : n = zs.length ∧ ∃ a b c, v = .slice a zs.length c ∧ IntsS w a b 0 zs ∧ zs.length ≤ maxLen ∧ (a = none ∨ v.ownBlock = some b) := by
  have hl : zs.length = n := by simpa using h.1
  subst hl
  refine ⟨rfl, ?_⟩
  rcases h.2 with ⟨hx, hn⟩ | ⟨g, cap, cur, hv, _, hh, h1, h2, h3, h4⟩
  · exact ⟨none, 0, 0, by rw [hx, hn], ⟨fun h => by omega, fun j hj => by omega⟩, by omega, .inl rfl⟩
  · refine ⟨some ⟨g, 0, none⟩, g, cap, hv, ⟨fun _ => rfl, fun j hj => ?_⟩, by omega, .inr (by rw [hv]; rfl)⟩
    have e : (cur.toList.take (zs.length * 1))[j]? = (zs.map (Value.int .i64))[j]? := by rw [h4]
    rw [List.getElem?_take_of_lt (by omega)] at e
    have e2 : cur[j]? = some (.int .i64 zs[j]) := by simpa [hj] using e
    simp [World.cell?, hh, e2]

theorem ivals_of (zs : List Nat) (xs : List Value) (hl : xs.length = zs.length) (h : ∀ p (hp : p < zs.length), xs[p]? = some (.int .i64 zs[p])) : xs = ivals zs := by
  apply List.ext_getElem?
  intro p
  by_cases hp : p < zs.length
  · rw [h p hp]; simp [ivals, hp]
  · rw [List.getElem?_eq_none (by omega), List.getElem?_eq_none (by simp [ivals]; omega)]

set_option maxRecDepth 100000 in
set_option maxHeartbeats 1000000 in
theorem rrising_yes (h : RTab w br sv ls) (hlen : ls.length ≤ 8796093022208) (zs : List Nat) (hz : Rises ls zs) :
    Calls Try.prog 44 #[.pointer (some ⟨br, 0, none⟩)] w fun e w' => ∃ v, e = .returned v ∧ w'.ownsRow w.heap.size 3 1 v ls.length (ivals zs) ∧ Below w.heap.size w w' := by
  obtain ⟨i0, hi, hz0, hz1, hz2⟩ := info_parts info3
  have hrk := rranks_yes h hlen
  have HZ : Hid (Rises ls zs) := hz
  have hlb : (ls.length : Int) ≤ 8796093022208 := by omega
  clear h hz
  go_enter Try.func44, Try.ntmps44
  go_wp2_with fail
  refine hrk.mono ?_
  rintro e w1 ⟨v, rfl, hrow, hB1⟩
  clear hrk
  rw [cnts_rks HZ.out] at hrow
  obtain ⟨hn, a, b, c, rfl, hIS, hmx, hab⟩ := row_ints hrow
  have hrl : ((rks zs).map Int.ofNat).length = ls.length := hn.symm
  rw [hrl]
  have HI : Hid (IntsS w1 a b 0 ((rks zs).map Int.ofNat) ∧ Below w.heap.size w w1 ∧ (0 < ls.length → b < w1.heap.size)) := ⟨hIS, hB1, fun h0 => World.block_lt_of_cell? w1 _ (hIS.2 0 (by omega))⟩
  clear hrow hIS hmx hab hn hB1
  go_wp2_with (at_make; refine wpList_make_full _ rfl _ _ 31 rfl 0 3 i0 (.int .i64 0) 1 Try.underlying31 hi hz0 hz1 _ _ _ _ ls.length rfl rfl rfl rfl (by rw [hz2]; omega) (by unfold maxLen; omega) (Nat.zero_le _) ?_; intro w2 hown hgrow)
  have hb2 : Below w1.heap.size w1 w2 := ((Turn.of_grown hgrow).mono (S' := fun _ => False) (fun _ _ e => by simp at e)).below (Nat.le_refl _) (fun _ e => e.elim)
  have hs1 := HI.out.2.1.size
  have hown' : w2.ownsRow w.heap.size 3 1 (.slice (some ⟨w1.heap.size, 0, none⟩) ls.length ls.length) ls.length _ := ⟨hown.1, hown.2.imp id (fun ⟨g, cap, cur, h1, h2, h3⟩ => ⟨g, cap, cur, h1, by simp at h1; omega, h3⟩)⟩
  have HN : Hid ((∃ xs, w2.ownsRow w.heap.size 3 1 (.slice (some ⟨w1.heap.size, 0, none⟩) ls.length ls.length) ls.length xs) ∧ Below w1.heap.size w1 w2) := ⟨⟨_, hown'⟩, hb2⟩
  clear hown hgrow hown' hb2
  go_loopw [5] (fun i wr => ∃ (k : Nat) (xs : List Value), k ≤ ls.length ∧ i = .int .i64 k ∧ wr.ownsRow w.heap.size 3 1 (.slice (some ⟨w1.heap.size, 0, none⟩) ls.length ls.length) ls.length xs ∧ (∀ p (hp : p < zs.length), zs[p] < k → xs[p]? = some (.int .i64 zs[p])) ∧ Below w1.heap.size w1 wr) (fun i _ => ls.length - (intOf i).toNat)
  case atStart =>
    obtain ⟨⟨xs, hx⟩, hB⟩ := HN.out
    exact ⟨0, xs, Nat.zero_le _, rfl, hx, fun p hp h => absurd h (Nat.not_lt_zero _), hB⟩
  case round =>
    obtain ⟨k, xs, hk, rfl, hI, hp, hB⟩ := hrel
    by_cases hlt : k < ls.length
    · have hzl := HZ.out.length
      have hkz : k ∈ zs := HZ.out.perm.mem_iff.2 (by simpa using hlt)
      have hil : zs.idxOf k < zs.length := List.idxOf_lt_length_iff.2 hkz
      have hat : zs[zs.idxOf k] = k := List.getElem_idxOf hil
      obtain rfl := HI.out.1.1 (by omega)
      have hcr : wr.cell? ⟨b, 0 + k, none⟩ = some (.int .i64 (zs.idxOf k : Nat)) := by
        have h1 := HI.out.1.2 k (by omega)
        rw [(hB.cell (p := ⟨b, 0 + k, none⟩) (HI.out.2.2 (by omega))).trans h1]
        simp [rks]
      rw [Nat.zero_add] at hcr
      obtain ⟨g1, cc, hv, ⟨x, hx⟩, hfx, hst⟩ := row_store hI (show zs.idxOf k < ls.length by omega) (.int .i64 k)
      simp only [Value.slice.injEq, Option.some.injEq, Addr.mk.injEq, and_true, true_and] at hv
      obtain ⟨rfl, rfl⟩ := hv
      have hib : ((zs.idxOf k : Nat) : Int) < (ls.length : Int) := by omega
      have hkb : (k : Int) < (ls.length : Int) := by omega
      have hlx : xs.length = ls.length := by simpa using hI.1
      have HF : Hid ((wr.setCell ⟨w1.heap.size, zs.idxOf k, none⟩ (.int .i64 k)).ownsRow w.heap.size 3 1 (.slice (some ⟨w1.heap.size, 0, none⟩) ls.length ls.length) ls.length (xs.set (zs.idxOf k) (.int .i64 k)) ∧ (∀ p (hp : p < zs.length), zs[p] < k + 1 → (xs.set (zs.idxOf k) (.int .i64 k))[p]? = some (.int .i64 zs[p])) ∧ Below w1.heap.size w1 (wr.setCell ⟨w1.heap.size, zs.idxOf k, none⟩ (.int .i64 k))) := by
        refine ⟨hst, fun p hpl hz => ?_, hB.setCell (p := ⟨w1.heap.size, zs.idxOf k, none⟩) (Nat.le_refl _) _⟩
        by_cases hpk : zs.idxOf k = p
        · subst hpk
          rw [List.getElem?_set_self (by omega), hat]
        · rw [List.getElem?_set_ne hpk]
          refine hp p hpl ?_
          have : zs[p] ≠ k := fun e => hpk (nodup_inj HZ.out.nodup hil hpl (hat.trans e.symm))
          omega
      clear hI hp hst hat hkz hil hB
      generalize zs.idxOf k = ii at hcr hx hfx hib HF
      go_wp2
      go_roundw
      case rel => exact ⟨k + 1, _, by omega, by go_num, HF.out⟩
      case measure => simp [intOf]; omega
    · obtain rfl : k = ls.length := by omega
      go_wp2
      go_ret
      have hzl := HZ.out.length
      have hx := ivals_of zs xs (by have := hI.1; simp at this; omega) (fun p hpl => hp p hpl (HZ.out.lt (List.getElem_mem hpl)))
      rw [← hx]
      exact ⟨_, rfl, hI, HI.out.2.1.trans (hB.mono hs1)⟩
end
end Go.Proofs.Ytdmopioiaaecfaa
