/- Layout: what it tells, for every loop over it. -/
import Derived.Test.YtdnophgcdnghkaaJC
import Derived.Test.YtdnophgcdnghkaaJBi
namespace Go.Proofs.Ytdnophgcdnghkaa.I
open Go.RowKit Go.Maps Go.Shelf Go.Proofs.Ytdnophgcdnghkaa
attribute [local go_sem] Oper.semAt_some

/-- By rising places. -/
def byPl (l : List E) : List E := l.mergeSort fun a b => decide (a.place ≤ b.place)
theorem byPl_perm (l : List E) : (byPl l).Perm l := List.mergeSort_perm _ _
theorem byPl_len (l : List E) : (byPl l).length = l.length := (byPl_perm l).length_eq
theorem byPl_rise (l : List E) : (byPl l).Pairwise (fun a b => a.place ≤ b.place) := by
  have := List.pairwise_mergeSort (le := fun a b : E => decide (a.place ≤ b.place)) (fun a b c h1 h2 => by simp at *; omega) (fun a b => by simp; omega) l
  exact this.imp fun h => by simpa using h
theorem byPl_uniq {l l' : List E} (hinj : ∀ a b, a ∈ l → b ∈ l → a.place = b.place → a = b) (hp : l'.Perm l) (hr : l'.Pairwise (fun a b => a.place ≤ b.place)) : l' = byPl l := by
  refine List.Perm.eq_of_pairwise (le := fun a b : E => a.place ≤ b.place) (fun a b ha hb h1 h2 => hinj a b (hp.mem_iff.1 ha) ((byPl_perm l).mem_iff.1 hb) (by omega)) hr (byPl_rise l) (hp.trans (byPl_perm l).symm)

/-- What is told in a round, by the number of the round: a place and its key. -/
def encsP (L : List E) (x : Nat) : Array Value := #[.int .i64 ((L[x]?.getD gap).place : Int), .int .i64 ((L[x]?.getD gap).key)]

section
variable {bt pb N len reach : Nat} {fp : Nat × Nat × Int} {cv : Value} {came : List E} {places : List Nat}

theorem mem_live {e : E} (h : e ∈ live came) : ∃ t : Nat, came[t]? = some e ∧ e.there = true := by
  obtain ⟨k, hk⟩ := List.getElem?_of_mem h
  obtain ⟨t, h1, h2, _⟩ := rank_ex hk
  exact ⟨t, h1, h2⟩

theorem Tab.inj {w : World} (h : Tab w bt fp cv pb N len reach came places) : ∀ a b, a ∈ live came → b ∈ live came → a.place = b.place → a = b := by
  intro a b ha hb e
  obtain ⟨t1, h1, h2⟩ := mem_live ha
  obtain ⟨t2, h3, h4⟩ := mem_live hb
  have p1 := (h.lies.here t1 a (List.getElem?_eq_some_iff.1 h1).1 h1 h2).2
  have p2 := (h.lies.here t2 b (List.getElem?_eq_some_iff.1 h3).1 h3 h4).2
  rw [e, p2] at p1
  have : t1 = t2 := by simp at p1; omega
  subst this
  rw [h1] at h3; simpa using h3

theorem byPlaces_any {w : World} (h : Tab w bt fp cv pb N len reach came places) (hsz : came.length ≤ 68719476736) :
    Calls Try.prog 38 #[.pointer (some ⟨bt, 0, none⟩)] w fun e' w' => ∃ g cap, e' = .returned (.slice (some ⟨g, 0, none⟩) (byPl (live came)).length cap) ∧ w.heap.size ≤ g ∧ Came w' g cap (byPl (live came)) ∧ Stay w w' := by
  have hio := inOrder_any h hsz
  have hb := h.pow.bd
  have HP : Hid (∀ e ∈ live came, e.place < 1099511627776) := fun e he => by
    obtain ⟨t, h1, h2⟩ := mem_live he
    have := (h.lies.here t e (List.getElem?_eq_some_iff.1 h1).1 h1 h2).1
    omega
  have hll := live_length_le came
  have HI : Hid (∀ a b, a ∈ live came → b ∈ live came → a.place = b.place → a = b) := h.inj
  clear h
  go_enter Try.func38, Try.ntmps38
  go_wp2_with fail
  refine hio.mono ?_
  rintro e9 w1 ⟨g, cap, rfl, hg, hC, hS⟩
  have hso := sortE_any hC HP.out cap (by omega)
  have HS : Hid (Stay w w1) := hS
  clear hio hC hS
  go_wp2_with fail
  refine hso.mono ?_
  rintro e9 w2 ⟨rfl, L', hp, hr, hC2, hT⟩
  have hu := byPl_uniq HI.out hp hr
  subst hu
  have HF : Hid (w.heap.size ≤ g ∧ Came w2 g cap (byPl (live came)) ∧ Stay w w2) := ⟨hg, hC2, hT.stay HS.out (fun k hk e => by omega)⟩
  clear hso hp hr hC2 hT
  rw [← byPl_len (live came)]
  go_wp2
  go_ret
  exact ⟨g, cap, rfl, HF.out⟩

theorem layout_any (w : World) (p : Option Addr) : Calls Try.prog 13 #[.pointer p] w fun e w' => e = .returned (.func (.func 37) #[] #[.pointer (some ⟨w.heap.size, 0, none⟩)]) ∧ w' = w.alloc (.cells #[.pointer p] 24) := by
  go_enter Try.func13, Try.ntmps13
  go_wp2
  go_ret
  exact ⟨rfl, rfl⟩

set_option maxRecDepth 100000 in
set_option maxHeartbeats 2000000 in
theorem lay1_in (n : Nat) (hn : 1 ≤ n) (l Bn B : Nat) (M : World → Nat → Prop) (J Jx : List Nat → World → Prop) (W : World) (hBn : W.cell? ⟨Bn, 0, none⟩ = some (.pointer (some ⟨bt, 0, none⟩))) (hT : Tab W bt fp cv pb N len reach came places) (hsz : came.length ≤ 68719476736) (hBW : B ≤ W.heap.size)
    (hM0 : ∀ W', Stay W W' → ∀ k, M W' k → k < W.heap.size) (hMa : ∀ W' o k, W.heap.size ≤ W'.heap.size → M (W'.alloc o) k → M W' k) (hA : AbidesFrom W.heap.size J)
    (hY : ∀ pre x W1, J pre W1 → pre.length < (byPl (live came)).length → YieldAt Fence.wide (n - 1) Try.prog l (encsP (byPl (live came)) x) W1 fun e W' =>
      (e = .returned (.bool true) ∧ J (pre ++ [x]) W' ∧ Keep B M W1 W') ∨ (e = .returned (.bool false) ∧ Jx (pre ++ [x]) W')) (h0 : J [] W) :
    CallsIn Fence.wide n Try.prog 37 #[.func (.yield l) #[] #[], .pointer (some ⟨Bn, 0, none⟩)] W fun e W' => (∃ v, e = .returned v) ∧
      ((∃ ys, ys = List.range (byPl (live came)).length ∧ J ys W') ∨ (∃ pre, (∃ k, k ≤ (byPl (live came)).length ∧ pre = List.range k) ∧ Jx pre W')) := by
  have hio := byPlaces_any hT hsz
  have hll : (byPl (live came)).length ≤ came.length := by rw [byPl_len]; exact live_length_le came
  generalize hL : byPl (live came) = L at hio hY hll ⊢
  have HT : Hid (byPl (live came) = L) := hL
  clear hT hL
  refine callsIn_of_wp Try.func37 rfl trivial ?_ rfl
  simp only [Try.ntmps37, List.size_toArray, List.length_cons, List.length_nil, Nat.reduceAdd, Nat.reduceSub, Array.replicate_succ, Array.replicate_zero, List.push_toArray, List.append_toArray, List.nil_append, List.cons_append]
  gi_wp2_with (refine ⟨trivial, ?_⟩; gi_at_call 38; refine CallsIn.mono (callsIn_wide.2 hio) ?_; rintro e w' ⟨g, cap, rfl, hg, hC, hS⟩)
  have hJ1 : J [] w' := hA [] W w' none h0 (stay_grown hS) (fun r e => by cases e)
  have hnm : ¬ M w' g := fun hm => by have := hM0 w' hS g hm; omega
  have HI : Hid (J (List.range 0) w' ∧ Came w' g cap L ∧ ¬ M w' g ∧ W.heap.size ≤ w'.heap.size) := ⟨hJ1, hC, hnm, hS.size⟩
  have hsl : L.length ≤ 68719476736 := by omega
  clear hio hC hS hJ1 hnm
  gi_loopw [4, 8] (fun _ue ui wr => ∃ k : Nat, k ≤ L.length ∧ ui = .int .i64 (k : Int) ∧ J (List.range k) wr ∧ Came wr g cap L ∧ ¬ M wr g ∧ W.heap.size ≤ wr.heap.size) (fun _ue ui _ => L.length - (intOf ui).toNat)
  case atStart => exact ⟨0, Nat.zero_le _, rfl, HI.out⟩
  case round =>
    obtain ⟨k, hk, rfl, hJ, hC, hnm, hws⟩ := hrel
    by_cases hlt : k < L.length
    · obtain ⟨e, he⟩ : ∃ e, L[k]? = some e := ⟨_, List.getElem?_eq_getElem hlt⟩
      obtain ⟨c0, c1, c2, c3, c4⟩ := hC.cells k e he
      have hki : (k : Int) < (L.length : Int) := by omega
      have HSu : Hid (List.range (k + 1) = List.range k ++ [k]) := List.range_succ
      have hJ2 : J (List.range k) (wr.alloc (.cells #[.int .i64 (e.key), .int .i64 (e.val), .int .u64 e.hash, .int .i64 e.place, .bool e.there] 75)) := hA _ wr _ none hJ (World.grownBy_alloc wr _ none) (fun r e => by cases e)
      have hgl := hC.lt
      have HC : Hid (Came (wr.alloc (.cells #[.int .i64 (e.key), .int .i64 (e.val), .int .u64 e.hash, .int .i64 e.place, .bool e.there] 75)) g cap L ∧ ¬ M (wr.alloc (.cells #[.int .i64 (e.key), .int .i64 (e.val), .int .u64 e.hash, .int .i64 e.place, .bool e.there] 75)) g) :=
        ⟨hC.block (Below.heap_alloc wr _ g hgl), fun hm => hnm (hMa wr _ g hws hm)⟩
      obtain ⟨fn, tmps, assign, body, hy, hR⟩ := hY _ k _ hJ2 (by rw [List.length_range]; exact hlt)
      dsimp only [encsP] at hy
      rw [he] at hy
      dsimp only [Option.getD_some] at hy
      clear hJ hC hnm hJ2 he hA hY
      gi_wp2
      refine hR.mono ?_
      rintro e9 W3 (⟨rfl, hJ3, hk3⟩ | ⟨rfl, hJx3⟩)
      · gi_wp2
        have hC3 : Came W3 g cap L := by
          obtain ⟨cur, h1, h2⟩ := HC.out.1
          exact ⟨cur, hk3.same g _ _ _ (by omega) h1 HC.out.2, h2⟩
        have hn3 : ¬ M W3 g := fun hm => by
          rcases hk3.more g hm with h1 | h1
          · exact HC.out.2 h1
          · simp at h1; omega
        go_roundw
        case rel => exact ⟨k + 1, by omega, by simp, by rw [HSu.out]; exact hJ3, hC3, hn3, by have := hk3.size; simp at this; omega⟩
        case measure => simp [intOf]; omega
      · gi_wp2
        refine bodyPost_ret (results_none rfl _ _ _) rfl ?_
        exact ⟨⟨_, rfl⟩, .inr ⟨_, ⟨k + 1, by omega, HSu.out.symm⟩, hJx3⟩⟩
    · obtain rfl : k = L.length := by omega
      have HJ : Hid (J (List.range L.length) wr) := hJ
      clear hJ hC hnm hY hA
      gi_wp2
      go_end0
      exact ⟨⟨_, rfl⟩, .inl ⟨_, rfl, HJ.out⟩⟩

/-- Layout of a table hands back a value that tells what there is, by its places. -/
theorem lay_stops (n : Nat) (hn : 1 ≤ n) (Bn : Nat) (M : World → Nat → Prop) (w : World) (hc : w.cell? ⟨Bn, 0, none⟩ = some (.pointer (some ⟨bt, 0, none⟩))) (hT : Tab w bt fp cv pb N len reach came places) (hsz : came.length ≤ 68719476736)
    (hM0 : ∀ W, Stay w W → ∀ k, M W k → k < w.heap.size) (hMa : ∀ W o k, w.heap.size ≤ W.heap.size → M (W.alloc o) k → M W k) :
    SeqStopsK Fence.wide n Try.prog 37 #[.pointer (some ⟨Bn, 0, none⟩)] (encsP (byPl (live came))) (Keep w.heap.size M) (fun ys => ys = List.range (byPl (live came)).length) (fun pre => ∃ k, k ≤ (byPl (live came)).length ∧ pre = List.range k) (byPl (live came)).length w := fun l J Jx W hW hA _ hY h0 =>
  lay1_in n hn l Bn w.heap.size M J Jx W ((hW.cell (p := ⟨Bn, 0, none⟩) (World.block_lt_of_cell? w _ hc)).trans hc) (hT.turn (S := fun k => w.heap.size ≤ k) (Turn.of_below hW) (fun k hk => by have := hT.lt k (.inl hk); omega) (fun k hk => by have := hT.lt k (.inr hk); omega)) hsz hW.size
    (fun W' hW' k hk => Nat.lt_of_lt_of_le (hM0 W' (Stay.trans hW hW') k hk) hW.size) (fun W' o k hle => hMa W' o k (Nat.le_trans hW.size hle)) hA hY h0
end
end Go.Proofs.Ytdnophgcdnghkaa.I
