/- Texts, by the program and by the document: what they answer; SameTexts. -/
import Derived.Test.YtdmopioiaaecfaaRefC
import Derived.Test.YtdmopioiaaecfaaSame
namespace Go.Proofs.Ytdmopioiaaecfaa
open Go.RowKit Go.Maps

/-- Has the table a text of this number? -/
def good (ts : List ByteArray) (z : Int) : Bool := decide (0 ≤ z) && decide (z < ts.length)
def textAt (ts : List ByteArray) (z : Int) : ByteArray := if good ts z then ts[z.toNat]?.getD ⟨#[]⟩ else ⟨#[]⟩
/-- What Texts answers. -/
def ttx (ts : List ByteArray) (zs : List Int) : List ByteArray := if zs.all (good ts) then zs.map (textAt ts) else []
def terr (ts : List ByteArray) (zs : List Int) : Int := if zs.all (good ts) then 0 else 2

theorem all_take_succ {ts : List ByteArray} {zs : List Int} {k : Nat} (hk : k < zs.length) (h : (zs.take k).all (good ts) = true) (hg : good ts zs[k] = true) : (zs.take (k + 1)).all (good ts) = true := by
  rw [List.take_succ_eq_append_getElem hk, List.all_append, h]; simp [hg]

theorem ttx_no {ts : List ByteArray} {zs : List Int} {k : Nat} (hk : k < zs.length) (hg : good ts zs[k] = false) : ttx ts zs = [] ∧ terr ts zs = 2 := by
  have : zs.all (good ts) = false := by
    rw [List.all_eq_false]; exact ⟨zs[k], List.getElem_mem hk, by simp [hg]⟩
  unfold ttx terr
  simp [this]

theorem ttx_yes {ts : List ByteArray} {zs : List Int} (h : zs.all (good ts) = true) : ttx ts zs = zs.map (textAt ts) ∧ terr ts zs = 0 := by
  unfold ttx terr
  rw [if_pos h, if_pos h]
  exact ⟨rfl, rfl⟩

theorem ttx_len (ts : List ByteArray) (zs : List Int) : (ttx ts zs).length ≤ zs.length := by
  unfold ttx; split <;> simp

section
variable {w : World} {bt bm g cap : Nat} {ts : List ByteArray}

theorem text_any (h : Tab w bt bm g cap ts) (z : Int) :
    Calls Try.prog 30 #[.pointer (some ⟨bt, 0, none⟩), .int .i64 z] w fun e w' => e = .returned (.tuple #[.string (textAt ts z), .bool (good ts z)]) ∧ w' = w := by
  by_cases hz : 0 ≤ z ∧ z < ts.length
  · obtain ⟨k, rfl⟩ : ∃ k : Nat, z = k := ⟨z.toNat, by omega⟩
    have hk : k < ts.length := by omega
    have hg : good ts (k : Int) = true := by unfold good; simp; omega
    refine (text_yes h k hk).mono ?_
    rintro e w' ⟨rfl, hw⟩
    refine ⟨?_, hw⟩
    unfold textAt
    rw [hg, if_pos rfl]
    simp [hk]
  · have hg : good ts z = false := by unfold good; simp; omega
    refine (text_out h z (by omega)).mono ?_
    rintro e w' ⟨rfl, hw⟩
    refine ⟨?_, hw⟩
    unfold textAt
    rw [hg]
    rfl
end

/-- Block b is a row of n places of the type t, of which the first hold vs. -/
def RowAt (w : World) (b : Nat) (t : TypeId) (n : Nat) (vs : List Value) : Prop :=
  ∃ cur, w.heap[b]? = some (.cells cur t (0, 0)) ∧ cur.size = n ∧ vs.length ≤ n ∧ ∀ j (h : j < vs.length), cur[j]? = some vs[j]

section
variable {w w' : World} {b n : Nat} {t : TypeId} {vs : List Value}

theorem RowAt.kept {S : Nat → Prop} (h : RowAt w b t n vs) (ht : Turn S w w') (hn : ¬ S b) : RowAt w' b t n vs := by
  obtain ⟨cur, h1, h2⟩ := h
  exact ⟨cur, (ht.block b (Array.getElem?_eq_some_iff.1 h1).1 hn).trans h1, h2⟩

theorem RowAt.lt (h : RowAt w b t n vs) : b < w.heap.size := by
  obtain ⟨cur, h1, h2⟩ := h
  exact (Array.getElem?_eq_some_iff.1 h1).1

theorem RowAt.spot (h : RowAt w b t n vs) (k : Nat) (hk : k < n) : ∃ v, w.cell? ⟨b, k, none⟩ = some v := by
  obtain ⟨cur, h1, h2, h3, h4⟩ := h
  exact ⟨cur[k]'(by omega), by simp [World.cell?, h1, h2, hk]⟩

theorem RowAt.frozen (h : RowAt w b t n vs) (k : Nat) : w.frozen? ⟨b, k, none⟩ = false := by
  obtain ⟨cur, h1, h2, h3, h4⟩ := h
  simp [World.frozen?, h1]

theorem RowAt.snoc (h : RowAt w b t n vs) (hk : vs.length < n) (v : Value) : RowAt (w.setCell ⟨b, vs.length, none⟩ v) b t n (vs ++ [v]) := by
  obtain ⟨cur, h1, h2, h3, h4⟩ := h
  refine ⟨cur.setIfInBounds vs.length v, ?_, by simpa using h2, by simp; omega, fun j hj => ?_⟩
  · simp only [World.setCell, Array.getElem?_modify, h1]
    simp
  · rw [Array.getElem?_setIfInBounds]
    by_cases e : vs.length = j
    · subst e
      rw [if_pos rfl, if_pos (by omega)]
      simp
    · rw [if_neg e]
      have hj' : j < vs.length := by simp at hj; omega
      rw [h4 j hj', List.getElem_append_left hj']

theorem RowAt.of_row {xs : List Value} (h : w.ownsRow 0 t 1 (.slice (some ⟨b, 0, none⟩) n n) n xs) : RowAt w b t n [] := by
  rcases h.2 with ⟨hx, _⟩ | ⟨g', cap', cur, hv, _, hh, h1, h2, h3, h4⟩
  · simp at hx
  · simp only [Value.slice.injEq, Option.some.injEq, Addr.mk.injEq, and_true, true_and] at hv
    obtain ⟨rfl, rfl⟩ := hv
    exact ⟨cur, hh, by simpa using h3, by simp, fun j hj => by simp at hj⟩

theorem RowAt.row {base : Nat} (h : RowAt w b t n vs) (hl : vs.length = n) (hb : base ≤ b) (hn : n ≤ maxLen) : w.ownsRow base t 1 (.slice (some ⟨b, 0, none⟩) n n) n vs := by
  obtain ⟨cur, h1, h2, h3, h4⟩ := h
  refine ⟨by simpa using hl, .inr ⟨b, n, cur, rfl, hb, h1, Nat.le_refl _, hn, by simpa using h2, ?_⟩⟩
  apply List.ext_getElem?
  intro j
  by_cases hj : j < vs.length
  · rw [List.getElem?_take_of_lt (by omega)]
    have := h4 j hj
    simpa [hj] using this
  · rw [List.getElem?_eq_none (by simp; omega), List.getElem?_eq_none (by omega)]
end

theorem row_strs {w : World} {base n : Nat} {v : Value} {us : List ByteArray} (h : w.ownsRow base 9 1 v n (us.map Value.string)) : n = us.length ∧ ∃ a b c, v = .slice a us.length c ∧ StrsAt w a b 0 us ∧ us.length ≤ maxLen ∧ (a = none ∨ v.ownBlock = some b) := by
  have hl : us.length = n := by simpa using h.1
  subst hl
  refine ⟨rfl, ?_⟩
  rcases h.2 with ⟨hx, hn⟩ | ⟨g, cap, cur, hv, _, hh, h1, h2, h3, h4⟩
  · exact ⟨none, 0, 0, by rw [hx, hn], ⟨fun h => by omega, fun j hj => by omega⟩, by omega, .inl rfl⟩
  · refine ⟨some ⟨g, 0, none⟩, g, cap, hv, ⟨fun _ => rfl, fun j hj => ?_⟩, by omega, .inr (by rw [hv]; rfl)⟩
    have e : (cur.toList.take (us.length * 1))[j]? = (us.map Value.string)[j]? := by rw [h4]
    rw [List.getElem?_take_of_lt (by omega)] at e
    have e2 : cur[j]? = some (.string us[j]) := by simpa [hj] using e
    simp [World.cell?, hh, e2]

set_option maxRecDepth 100000 in
set_option maxHeartbeats 1000000 in
theorem sameTexts_any (w : World) (a1 a2 : Option Addr) (b1 o1 b2 o2 c1 c2 : Nat) (xs ys : List ByteArray) (hx : StrsAt w a1 b1 o1 xs) (hy : StrsAt w a2 b2 o2 ys) (hlx : xs.length ≤ maxLen) (hly : ys.length ≤ maxLen) :
    Calls Try.prog 27 #[.slice a1 xs.length c1, .slice a2 ys.length c2] w fun e w' => ∃ q : Bool, e = .returned (.bool q) ∧ (q = true ↔ xs = ys) ∧ ∃ n, w' = w.drewN n := by
  unfold maxLen at hlx hly
  by_cases hl : xs.length = ys.length
  · have hne : ((xs.length : Int) != (ys.length : Int)) = false := by simp [hl]
    have HX : Hid (StrsAt w a1 b1 o1 xs ∧ StrsAt w a2 b2 o2 ys) := ⟨hx, hy⟩
    have HL : Hid (xs.length = ys.length) := hl
    clear hx hy hl
    go_enter Try.func27, Try.ntmps27
    go_wp2
    go_loopw [5] (fun i wr => ∃ k : Nat, k ≤ xs.length ∧ i = .int .i64 k ∧ xs.take k = ys.take k ∧ ∃ n, wr = w.drewN n) (fun i _ => xs.length - (intOf i).toNat)
    case atStart => exact ⟨0, Nat.zero_le _, rfl, by simp, 0, rfl⟩
    case round =>
      obtain ⟨k, hk, rfl, htk, n, rfl⟩ := hrel
      by_cases hlt : k < xs.length
      · have hl := HL.out
        have hlt2 : k < ys.length := by omega
        obtain rfl := HX.out.1.1 (by omega)
        obtain rfl := HX.out.2.1 (by omega)
        have hc1 := HX.out.1.2 k hlt
        have hc2 := HX.out.2.2 k hlt2
        have hi1 : (k : Int) < (xs.length : Int) := by omega
        have hi2 : (k : Int) < (ys.length : Int) := by omega
        by_cases he : xs[k] = ys[k]
        · have HT : Hid (xs.take (k + 1) = ys.take (k + 1)) := by
            show xs.take (k + 1) = ys.take (k + 1)
            rw [List.take_succ_eq_append_getElem hlt, List.take_succ_eq_append_getElem hlt2, htk, he]
          rw [he] at hc1
          generalize ys[k] = y at hc1 hc2
          clear hl htk he
          go_wp2
          go_quiet (fail)
          go_wp2
          go_roundw
          case rel => exact ⟨k + 1, by omega, by go_num, HT.out, _, rfl⟩
          case measure => simp [intOf]; omega
        · have hbe : (xs[k].toList == ys[k].toList) = false := tl_ne he
          have HF : Hid (¬ xs = ys) := by show ¬ xs = ys; rintro rfl; exact he rfl
          generalize xs[k] = x at hc1 hbe
          generalize ys[k] = y at hc2 hbe
          have hbn : (x.toList != y.toList) = true := by simp [bne, hbe]
          clear hl htk he
          go_wp2
          go_quiet (fail)
          go_wp2
          go_ret
          exact ⟨false, rfl, ⟨fun h => (by cases h), fun h => absurd h HF.out⟩, _, World.drewN_drewN _ _ _⟩
      · go_wp2
        go_ret
        have hl := HL.out
        rw [List.take_of_length_le (by omega), List.take_of_length_le (by omega)] at htk
        exact ⟨true, rfl, ⟨fun _ => htk, fun _ => rfl⟩, n, rfl⟩
  · have hne : ((xs.length : Int) != (ys.length : Int)) = true := by simp; omega
    have HD : Hid (¬ xs = ys) := by show ¬ xs = ys; rintro rfl; exact hl rfl
    clear hx hy hl
    go_enter Try.func27, Try.ntmps27
    go_wp2
    go_ret
    exact ⟨false, rfl, ⟨fun h => (by cases h), fun h => absurd h HD.out⟩, 0, rfl⟩
end Go.Proofs.Ytdmopioiaaecfaa
