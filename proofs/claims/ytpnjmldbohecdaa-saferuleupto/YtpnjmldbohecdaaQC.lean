/- The variables among terms, one by one. The places of a rule's variables, one by one. -/
import Derived.Test.YtpnjmldbohecdaaQA
import Derived.Test.YtpnjmldbohecdaaBA
namespace Go.Proofs.Ytpnjmldbohecdaa
open Go.RowKit Go.Maps Go.Shelf
attribute [local go_sem] Oper.semAt_some

def varsT (ts : List Tm) : List ByteArray := (ts.filter (·.var)).map (·.text)
theorem varsT_app (xs ys : List Tm) : varsT (xs ++ ys) = varsT xs ++ varsT ys := by simp [varsT]
theorem varsT_yes {ts : List Tm} {j : Nat} (h : j < ts.length) (hv : ts[j].var = true) : varsT (ts.take (j + 1)) = varsT (ts.take j) ++ [ts[j].text] := by
  rw [List.take_add_one, List.getElem?_eq_getElem h, varsT_app]; simp [varsT, hv]
theorem varsT_no {ts : List Tm} {j : Nat} (h : j < ts.length) (hv : ts[j].var = false) : varsT (ts.take (j + 1)) = varsT (ts.take j) := by
  rw [List.take_add_one, List.getElem?_eq_getElem h, varsT_app]; simp [varsT, hv]
theorem varsT_at {ts : List Tm} {j : Nat} (h : j < ts.length) (hv : ts[j].var = true) : ∃ hk : (varsT (ts.take j)).length < (varsT ts).length, (varsT ts)[(varsT (ts.take j)).length] = ts[j].text := by
  have h1 := varsT_yes h hv
  have h2 : varsT ts = varsT (ts.take j) ++ [ts[j].text] ++ varsT (ts.drop (j + 1)) := by
    rw [← h1, ← varsT_app, List.take_append_drop]
  have hk : (varsT (ts.take j)).length < (varsT ts).length := by rw [h2]; simp
  refine ⟨hk, ?_⟩
  rw [List.getElem_of_eq h2]
  simp
def encS (s : ByteArray) : Array Value := #[.string s]


theorem variables_any (a : Option Addr) (n c : Nat) (w : World) : Calls Try.prog 35 #[.slice a n c] w fun e w' => e = .returned (.func (.func 48) #[] #[.pointer (some ⟨w.heap.size, 0, none⟩)]) ∧ w' = w.alloc (.cells #[.slice a n c] 22) := by
  go_enter Try.func35, Try.ntmps35
  go_wp2
  go_ret
  exact ⟨rfl, rfl⟩

theorem holds_cell {S : Nat → Prop} {A A' : World} (h : Holds S A A') {p : Addr} (hp : S p.block) {v : Value} (hv : A.cell? p = some v) : A'.cell? p = some v := by
  rw [← hv]; exact World.cell?_of_block (h _ hp)
theorem below_alloc (n : Nat) (A : World) (o : Obj) (h : n ≤ A.heap.size) : Below n A (A.alloc o) := Below.mono (Stay.new A o) h
theorem holds_alloc (Hs : Nat → Prop) (A : World) (o : Obj) (h : ∀ i, Hs i → i < A.heap.size) : Holds Hs A (A.alloc o) := fun i hi => (Stay.new A o).block i (h i hi)

set_option maxRecDepth 100000 in
set_option maxHeartbeats 2000000 in
theorem vars_seq (T : TypeId → Prop) (ts : List Tm) (a : Option Addr) (b off c Bl : Nat) (Hs : Nat → Prop) (w : World) (hM : TmsS w a b off ts) (hB : w.cell? ⟨Bl, 0, none⟩ = some (.slice a ts.length c)) (hl : ts.length ≤ 140737488355328) (hb : 0 < ts.length → Hs b) (hHs : ∀ i, Hs i → i < w.heap.size) :
    SeqL T Try.prog 48 #[.pointer (some ⟨Bl, 0, none⟩)] encS Hs (varsT ts) w := by
  intro l J Jx W hW hJ hJx hY h0
  refine (callsIn_wide (n := 8)).1 (callsIn_of_wp Try.func48 rfl trivial ?_ rfl)
  simp only [Try.ntmps48, List.size_toArray, List.length_cons, List.length_nil, Nat.reduceAdd, Nat.reduceSub, Array.replicate_succ, Array.replicate_zero, List.push_toArray, List.append_toArray, List.nil_append, List.cons_append]
  have cB : W.cell? ⟨Bl, 0, none⟩ = some (.slice a ts.length c) := hW.cell hB
  have hz := hW.size
  have HM := hM.stay hW
  have H0 : Hid (J (varsT (ts.take 0)).length W) := h0
  clear hM hB hW h0
  gi_wp2
  gi_loopw [4, 7] (fun _ue ui wr => ∃ j : Nat, j ≤ ts.length ∧ ui = .int .i64 (j : Int) ∧ J (varsT (ts.take j)).length wr ∧ Holds Hs W wr ∧ W.heap.size ≤ wr.heap.size) (fun _ue ui _ => ts.length - (intOf ui).toNat)
  case atStart => exact ⟨0, Nat.zero_le _, rfl, H0.out, Holds.refl _ _, Nat.le_refl _⟩
  case round =>
    obtain ⟨j, hj, rfl, hJr, hH, hws⟩ := hrel
    by_cases hlt : j < ts.length
    · obtain rfl := HM.1 (by omega)
      have hbb := hb (by omega)
      have c0 := holds_cell hH (p := ⟨b, off + j * 2, none⟩) hbb (HM.2 j hlt).1
      have c1 := holds_cell hH (p := ⟨b, off + j * 2 + 1, none⟩) hbb (HM.2 j hlt).2
      have hki : (j : Int) < (ts.length : Int) := by omega
      cases hv : ts[j].var
      · have HN : Hid (varsT (ts.take (j + 1)) = varsT (ts.take j)) := varsT_no hlt hv
        rw [hv] at c0
        generalize ts[j].text = tx at *
        have hJ2 : J (varsT (ts.take j)).length (wr.alloc (.cells #[.bool false, .string tx] 51)) := hJ _ wr _ hJr (Bel.alloc _ _ _ _ hws)
        have HH : Hid (J (varsT (ts.take j)).length (wr.alloc (.cells #[.bool false, .string tx] 51)) ∧ Holds Hs W (wr.alloc (.cells #[.bool false, .string tx] 51))) := ⟨hJ2, hH.trans (holds_alloc Hs _ _ (fun i hi => by have := hHs i hi; omega))⟩
        clear hv hJr hJ2 hH hY HM H0
        gi_wp2
        refine ⟨fun _ h => (by cases h), ?_⟩
        gi_wp2
        go_roundw
        case rel => exact ⟨j + 1, by omega, by simp, by rw [HN.out]; exact HH.out.1, HH.out.2, by simp; omega⟩
        case measure => simp [intOf]; omega
      · obtain ⟨hkk, hat⟩ := varsT_at hlt hv
        have HN : Hid ((varsT (ts.take (j + 1))).length = (varsT (ts.take j)).length + 1) := by show _ = _; rw [varsT_yes hlt hv]; simp
        rw [hv] at c0
        obtain ⟨tx, htx⟩ : ∃ tx, ts[j].text = tx := ⟨_, rfl⟩
        rw [htx] at c1 hat
        have hJ2 : J (varsT (ts.take j)).length (wr.alloc (.cells #[.bool true, .string tx] 51)) := hJ _ wr _ hJr (Bel.alloc _ _ _ _ hws)
        obtain ⟨fn, tmps, assign, body, hy, hR⟩ := yield_deep (m' := 8 - 1) (hY _ hkk _ hJ2 (by simp; omega))
        rw [hat] at hy
        dsimp only [encS] at hy
        have HH : Hid (Holds Hs W (wr.alloc (.cells #[.bool true, .string tx] 51))) := hH.trans (holds_alloc Hs _ _ (fun i hi => by have := hHs i hi; omega))
        clear hv hJr hJ2 hH hY HM H0 htx hat
        gi_wp2
        refine hR.mono ?_
        rintro e9 W3 ⟨hh, hz3, (⟨rfl, hJ3⟩ | ⟨rfl, hJx3⟩)⟩
        · have H3 : Hid (J (varsT (ts.take (j + 1))).length W3 ∧ Holds Hs W W3 ∧ W.heap.size ≤ W3.heap.size) := by
            refine ⟨by rw [HN.out]; exact hJ3, HH.out.trans (hh.mono fun i hi => .inl hi), ?_⟩
            simp at hz3; omega
          clear hR hh hz3 hJ3
          gi_wp2
          go_roundw
          case rel => exact ⟨j + 1, by omega, by simp, H3.out⟩
          case measure => simp [intOf]; omega
        · clear hR hh hz3
          gi_wp2
          refine bodyPost_ret (results_none rfl _ _ _) rfl ?_
          exact ⟨⟨_, rfl⟩, .inr ⟨_, hkk, hJx3⟩⟩
    · obtain rfl : j = ts.length := by omega
      have HJ : Hid (J (varsT ts).length wr) := by rw [List.take_of_length_le (Nat.le_refl _)] at hJr; exact hJr
      clear hJr hH hY
      gi_wp2
      go_end0
      exact ⟨⟨_, rfl⟩, .inl HJ.out⟩
end Go.Proofs.Ytpnjmldbohecdaa
namespace Go.Proofs.Ytpnjmldbohecdaa
open Go.RowKit Go.Maps Go.Shelf
attribute [local go_sem] Oper.semAt_some

/-- A literal's terms. -/
def Li.terms (x : Li) : List Tm := if x.kind = 1 ∨ x.kind = 2 then x.atom.ts else if x.kind = 3 then [x.left, x.right] else []
theorem Li.terms_len (x : Li) : x.terms.length ≤ x.atom.ts.length + 2 := by
  unfold Li.terms
  split
  · omega
  · split <;> simp
/-- Places: a literal's number, a variable. -/
def placesB : Nat → List Li → List (Int × ByteArray)
  | _, [] => []
  | k, l :: ls => (varsT l.terms).map (fun s => ((k : Int), s)) ++ placesB (k + 1) ls
def placesR (x : Ru) : List (Int × ByteArray) := (varsT x.head.ts).map (fun s => (-1, s)) ++ placesB 0 x.body
theorem placesB_app : ∀ (k : Nat) (xs ys : List Li), placesB k (xs ++ ys) = placesB k xs ++ placesB (k + xs.length) ys
  | k, [], ys => by simp [placesB]
  | k, x :: xs, ys => by
    rw [List.cons_append, placesB, placesB, placesB_app (k + 1) xs ys, List.append_assoc, List.length_cons, show k + 1 + xs.length = k + (xs.length + 1) by omega]
theorem placesB_take {ls : List Li} {i : Nat} (h : i < ls.length) : placesB 0 (ls.take (i + 1)) = placesB 0 (ls.take i) ++ (varsT ls[i].terms).map (fun s => ((i : Int), s)) := by
  rw [List.take_add_one, List.getElem?_eq_getElem h, Option.toList_some, placesB_app, List.length_take, Nat.min_eq_left (by omega), Nat.zero_add]
  simp [placesB]
theorem placesB_split {ls : List Li} {i : Nat} (h : i < ls.length) : placesB 0 ls = placesB 0 (ls.take i) ++ (varsT ls[i].terms).map (fun s => ((i : Int), s)) ++ placesB (i + 1) (ls.drop (i + 1)) := by
  rw [← placesB_take h]
  have := placesB_app 0 (ls.take (i + 1)) (ls.drop (i + 1))
  rw [List.take_append_drop, List.length_take, Nat.min_eq_left (by omega), Nat.zero_add] at this
  exact this
def encIS (p : Int × ByteArray) : Array Value := #[.int .i64 p.1, .string p.2]

theorem tms_two (V : World) (lv rv : Bool) (lt rt : ByteArray) (t : TypeId) : TmsS (V.alloc (.cells #[.bool lv, .string lt, .bool rv, .string rt] t)) (some ⟨V.heap.size, 0, none⟩) V.heap.size 0 [⟨lv, lt⟩, ⟨rv, rt⟩] := by
  have h := fun j u hj => new_cells V [.bool lv, .string lt, .bool rv, .string rt] t j u hj
  simp only [add_at] at h
  refine ⟨fun _ => rfl, fun j hj => ?_⟩
  rcases j with _ | _ | j
  · exact ⟨h 0 _ rfl, h 1 _ rfl⟩
  · exact ⟨h 2 _ rfl, h 3 _ rfl⟩
  · exact absurd hj (by simp)
/-- Where a list of terms lies: below n, or new. -/
def TermsAt (x : Li) (w : World) (e : Ending) (w' : World) : Prop :=
  ∃ a b off c, e = .returned (.slice a x.terms.length c) ∧ TmsS w' a b off x.terms ∧ (0 < x.terms.length → b = x.atom.b ∧ 0 < x.atom.ts.length ∨ w.heap.size ≤ b ∧ b < w'.heap.size ∧ ∃ cs f, w'.heap[b]? = some (.cells cs 51 f)) ∧ Stay w w'
theorem terms_any (x : Li) (w : World) (hM : x.atom.In w) : Calls Try.prog 36 #[x.v] w (TermsAt x w) := by
  obtain ⟨kind, ⟨pred, a, b, off, cap, ts⟩, ⟨lv, lt⟩, ⟨rv, rt⟩⟩ := x
  unfold At.In at hM
  dsimp only [Li.v, At.sl] at *
  by_cases h1 : kind = 1
  · subst h1
    go_enter Try.func36, Try.ntmps36
    go_wp2
    go_ret
    exact ⟨a, b, off, cap, rfl, by simpa [Li.terms] using hM.stay (Stay.new _ _), fun h => .inl ⟨rfl, by simpa [Li.terms] using h⟩, Stay.new _ _⟩
  · by_cases h2 : kind = 2
    · subst h2
      go_enter Try.func36, Try.ntmps36
      go_wp2
      go_ret
      exact ⟨a, b, off, cap, rfl, by simpa [Li.terms] using hM.stay (Stay.new _ _), fun h => .inl ⟨rfl, by simpa [Li.terms] using h⟩, Stay.new _ _⟩
    · by_cases h3 : kind = 3
      · subst h3
        go_enter Try.func36, Try.ntmps36
        go_wp2
        go_ret
        refine ⟨_, w.heap.size + 1, 0, 2, rfl, ?_, fun _ => .inr ⟨by omega, by simp, #[.bool lv, .string lt, .bool rv, .string rt], (0, 0), ?_⟩, (Stay.new _ _).alloc _⟩
        · have := tms_two (w.alloc (.cells #[.int .i64 3, .string pred, .slice a ts.length cap, .bool lv, .string lt, .bool rv, .string rt] 53)) lv rv lt rt 51
          rw [World.size_alloc] at this
          exact this
        · have := heap_new (w.alloc (.cells #[.int .i64 3, .string pred, .slice a ts.length cap, .bool lv, .string lt, .bool rv, .string rt] 53)) (.cells #[.bool lv, .string lt, .bool rv, .string rt] 51)
          rw [World.size_alloc] at this
          exact this
      · have e1 : (kind == 1) = false := by simpa using h1
        have e2 : (kind == 2) = false := by simpa using h2
        have e3 : (kind == 3) = false := by simpa using h3
        go_enter Try.func36, Try.ntmps36
        go_wp2
        go_ret
        have ht : Li.terms ⟨kind, ⟨pred, a, b, off, cap, ts⟩, ⟨lv, lt⟩, ⟨rv, rt⟩⟩ = [] := by simp [Li.terms, h1, h2, h3]
        unfold TermsAt
        rw [ht]
        exact ⟨none, 0, 0, 0, rfl, TmsS.nil _ _ _ _, fun h => absurd h (Nat.lt_irrefl _), Stay.new _ _⟩
theorem standing_any (x : Ru) (w : World) : Calls Try.prog 23 #[x.v] w fun e w' => e = .returned (.func (.func 42) #[] #[.pointer (some ⟨w.heap.size, 0, none⟩)]) ∧ w' = w.alloc (.cells #[.string x.head.pred, x.head.sl, .slice x.a x.body.length x.cap] 27) := by
  unfold Ru.v At.sl
  go_enter Try.func23, Try.ntmps23
  go_wp2
  go_ret
  exact ⟨rfl, rfl⟩
end Go.Proofs.Ytpnjmldbohecdaa
