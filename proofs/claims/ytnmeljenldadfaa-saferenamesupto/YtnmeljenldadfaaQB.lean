/- The variables among terms, one by one. -/
import Derived.Test.YtnmeljenldadfaaQA
import Derived.Test.YtnmeljenldadfaaBA
namespace Go.Proofs.Ytnmeljenldadfaa
open Go.RowKit Go.Maps Go.Shelf
attribute [local go_sem] Oper.semAt_some

def varsT (ts : List Tm) : List ByteArray := (ts.filter (·.var)).map (·.text)
theorem varsT_app (xs ys : List Tm) : varsT (xs ++ ys) = varsT xs ++ varsT ys := by simp [varsT]
theorem varsT_yes {ts : List Tm} {j : Nat} (h : j < ts.length) (hv : ts[j].var = true) : varsT (ts.take (j + 1)) = varsT (ts.take j) ++ [ts[j].text] := by
  rw [List.take_add_one, List.getElem?_eq_getElem h, varsT_app]; simp [varsT, hv]
theorem varsT_no {ts : List Tm} {j : Nat} (h : j < ts.length) (hv : ts[j].var = false) : varsT (ts.take (j + 1)) = varsT (ts.take j) := by
  rw [List.take_add_one, List.getElem?_eq_getElem h, varsT_app]; simp [varsT, hv]
theorem varsT_at {ts : List Tm} {j : Nat} (h : j < ts.length) (hv : ts[j].var = true) : ∃ hk : (varsT (ts.take j)).length < (varsT ts).length, (varsT ts)[(varsT (ts.take j)).length] = ts[j].text := by
  have h1 := varsT_yes h hv
  have h2 : varsT ts = varsT (ts.take j) ++ [ts[j].text] ++ varsT (ts.drop (j + 1)) := by
    rw [← h1, ← varsT_app, List.take_append_drop]
  have hk : (varsT (ts.take j)).length < (varsT ts).length := by rw [h2]; simp
  refine ⟨hk, ?_⟩
  rw [List.getElem_of_eq h2]
  simp
def encS (s : ByteArray) : Array Value := #[.string s]


theorem variables_any (a : Option Addr) (n c : Nat) (w : World) : Calls Try.prog 46 #[.slice a n c] w fun e w' => e = .returned (.func (.func 61) #[] #[.pointer (some ⟨w.heap.size, 0, none⟩)]) ∧ w' = w.alloc (.cells #[.slice a n c] 22) := by
  go_enter Try.func46, Try.ntmps46
  go_wp2
  go_ret
  exact ⟨rfl, rfl⟩

theorem holds_cell {S : Nat → Prop} {A A' : World} (h : Holds S A A') {p : Addr} (hp : S p.block) {v : Value} (hv : A.cell? p = some v) : A'.cell? p = some v := by
  rw [← hv]; exact World.cell?_of_block (h _ hp)
theorem below_alloc (n : Nat) (A : World) (o : Obj) (h : n ≤ A.heap.size) : Below n A (A.alloc o) := Below.mono (Stay.new A o) h
theorem holds_alloc (Hs : Nat → Prop) (A : World) (o : Obj) (h : ∀ i, Hs i → i < A.heap.size) : Holds Hs A (A.alloc o) := fun i hi => (Stay.new A o).block i (h i hi)

set_option maxRecDepth 100000 in
set_option maxHeartbeats 2000000 in
theorem vars_seq (T : TypeId → Prop) (ts : List Tm) (a : Option Addr) (b off c Bl : Nat) (Hs : Nat → Prop) (w : World) (hM : TmsS w a b off ts) (hB : w.cell? ⟨Bl, 0, none⟩ = some (.slice a ts.length c)) (hl : ts.length ≤ 140737488355328) (hb : 0 < ts.length → Hs b) (hHs : ∀ i, Hs i → i < w.heap.size) :
    SeqL T Try.prog 61 #[.pointer (some ⟨Bl, 0, none⟩)] encS Hs (varsT ts) w := by
  intro l J Jx W hW hJ hJx hY h0
  refine (callsIn_wide (n := 8)).1 (callsIn_of_wp Try.func61 rfl trivial ?_ rfl)
  simp only [Try.ntmps61, List.size_toArray, List.length_cons, List.length_nil, Nat.reduceAdd, Nat.reduceSub, Array.replicate_succ, Array.replicate_zero, List.push_toArray, List.append_toArray, List.nil_append, List.cons_append]
  have cB : W.cell? ⟨Bl, 0, none⟩ = some (.slice a ts.length c) := hW.cell hB
  have hz := hW.size
  have HM := hM.stay hW
  have H0 : Hid (J (varsT (ts.take 0)).length W) := h0
  clear hM hB hW h0
  gi_wp2
  gi_loopw [4, 7] (fun _ue ui wr => ∃ j : Nat, j ≤ ts.length ∧ ui = .int .i64 (j : Int) ∧ J (varsT (ts.take j)).length wr ∧ Holds Hs W wr ∧ W.heap.size ≤ wr.heap.size) (fun _ue ui _ => ts.length - (intOf ui).toNat)
  case atStart => exact ⟨0, Nat.zero_le _, rfl, H0.out, Holds.refl _ _, Nat.le_refl _⟩
  case round =>
    obtain ⟨j, hj, rfl, hJr, hH, hws⟩ := hrel
    by_cases hlt : j < ts.length
    · obtain rfl := HM.1 (by omega)
      have hbb := hb (by omega)
      have c0 := holds_cell hH (p := ⟨b, off + j * 2, none⟩) hbb (HM.2 j hlt).1
      have c1 := holds_cell hH (p := ⟨b, off + j * 2 + 1, none⟩) hbb (HM.2 j hlt).2
      have hki : (j : Int) < (ts.length : Int) := by omega
      cases hv : ts[j].var
      · have HN : Hid (varsT (ts.take (j + 1)) = varsT (ts.take j)) := varsT_no hlt hv
        rw [hv] at c0
        generalize ts[j].text = tx at *
        have hJ2 : J (varsT (ts.take j)).length (wr.alloc (.cells #[.bool false, .string tx] 51)) := hJ _ wr _ hJr (Bel.alloc _ _ _ _ hws)
        have HH : Hid (J (varsT (ts.take j)).length (wr.alloc (.cells #[.bool false, .string tx] 51)) ∧ Holds Hs W (wr.alloc (.cells #[.bool false, .string tx] 51))) := ⟨hJ2, hH.trans (holds_alloc Hs _ _ (fun i hi => by have := hHs i hi; omega))⟩
        clear hv hJr hJ2 hH hY HM H0
        gi_wp2
        refine ⟨fun _ h => (by cases h), ?_⟩
        gi_wp2
        go_roundw
        case rel => exact ⟨j + 1, by omega, by simp, by rw [HN.out]; exact HH.out.1, HH.out.2, by simp; omega⟩
        case measure => simp [intOf]; omega
      · obtain ⟨hkk, hat⟩ := varsT_at hlt hv
        have HN : Hid ((varsT (ts.take (j + 1))).length = (varsT (ts.take j)).length + 1) := by show _ = _; rw [varsT_yes hlt hv]; simp
        rw [hv] at c0
        obtain ⟨tx, htx⟩ : ∃ tx, ts[j].text = tx := ⟨_, rfl⟩
        rw [htx] at c1 hat
        have hJ2 : J (varsT (ts.take j)).length (wr.alloc (.cells #[.bool true, .string tx] 51)) := hJ _ wr _ hJr (Bel.alloc _ _ _ _ hws)
        obtain ⟨fn, tmps, assign, body, hy, hR⟩ := yield_deep (m' := 8 - 1) (hY _ hkk _ hJ2 (by simp; omega))
        rw [hat] at hy
        dsimp only [encS] at hy
        have HH : Hid (Holds Hs W (wr.alloc (.cells #[.bool true, .string tx] 51))) := hH.trans (holds_alloc Hs _ _ (fun i hi => by have := hHs i hi; omega))
        clear hv hJr hJ2 hH hY HM H0 htx hat
        gi_wp2
        refine hR.mono ?_
        rintro e9 W3 ⟨hh, hz3, (⟨rfl, hJ3⟩ | ⟨rfl, hJx3⟩)⟩
        · have H3 : Hid (J (varsT (ts.take (j + 1))).length W3 ∧ Holds Hs W W3 ∧ W.heap.size ≤ W3.heap.size) := by
            refine ⟨by rw [HN.out]; exact hJ3, HH.out.trans (hh.mono fun i hi => .inl hi), ?_⟩
            simp at hz3; omega
          clear hR hh hz3 hJ3
          gi_wp2
          go_roundw
          case rel => exact ⟨j + 1, by omega, by simp, H3.out⟩
          case measure => simp [intOf]; omega
        · clear hR hh hz3
          gi_wp2
          refine bodyPost_ret (results_none rfl _ _ _) rfl ?_
          exact ⟨⟨_, rfl⟩, .inr ⟨_, hkk, hJx3⟩⟩
    · obtain rfl : j = ts.length := by omega
      have HJ : Hid (J (varsT ts).length wr) := by rw [List.take_of_length_le (Nat.le_refl _)] at hJr; exact hJr
      clear hJr hH hY
      gi_wp2
      go_end0
      exact ⟨⟨_, rfl⟩, .inl HJ.out⟩
end Go.Proofs.Ytnmeljenldadfaa
