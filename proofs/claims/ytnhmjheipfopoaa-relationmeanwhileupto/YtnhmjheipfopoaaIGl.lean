/- A table whole: what it is; the calls that only read. -/
import Derived.Test.YtnhmjheipfopoaaIEl
namespace Go.Proofs.Ytnhmjheipfopoaa.L
open Go.RowKit Go.Maps Go.Proofs.Ytnhmjheipfopoaa

/-- At block bt lies a table into which came has come. -/
structure Tab (w : World) (bt : Nat) (fp : List LK) (cv : Value) (pb N len reach : Nat) (came : List E) (places : List Nat) : Prop where
  box : Box w bt fp cv pb N len reach
  row : Row w cv came
  spots : Spots w pb places
  fns : Fns w fp
  pow : Pow N
  eight : 8 ≤ N
  lies : Lies N came.length reach came places
  zer : zeros places + len = N
  cnt : len = (live came).length
  few : 4 * len ≤ 3 * N
  rlt : reach < N
  keys : ∀ (t : Nat) (e : E), came[t]? = some e → e.there = true → e.hash = hf fp e.key ∧ KeyOk fp e.key
  uniq : ∀ (t : Nat) (e : E) (t' : Nat) (e' : E), came[t]? = some e → e.there = true → came[t']? = some e' → e'.there = true → sm fp e.key e'.key = true → t = t'
  apart : ∀ k, fnfoot fp k → k ≠ bt ∧ k ≠ pb ∧ cv.ownBlock ≠ some k
  two : bt ≠ pb ∧ cv.ownBlock ≠ some bt ∧ cv.ownBlock ≠ some pb
  short : came.length ≤ 1099511627776

/-- The blocks of a table. -/
def foot (bt pb : Nat) (cv : Value) (k : Nat) : Prop := k = bt ∨ k = pb ∨ cv.ownBlock = some k

section
variable {w w' : World} {bt pb N len reach : Nat} {fp : List LK} {cv : Value} {came : List E} {places : List Nat}

theorem Row.turn {S : Nat → Prop} (h : Row w cv came) (ht : Turn S w w') (hn : ∀ k, cv.ownBlock = some k → ¬ S k) : Row w' cv came := by
  rcases h with h | ⟨g, cap, rfl, hC⟩
  · exact .inl h
  · exact .inr ⟨g, cap, rfl, hC.turn ht (hn g rfl)⟩

theorem Tab.turn {S : Nat → Prop} (h : Tab w bt fp cv pb N len reach came places) (ht : Turn S w w') (hn : ∀ k, foot bt pb cv k → ¬ S k) (hf : ∀ k, fnfoot fp k → ¬ S k) : Tab w' bt fp cv pb N len reach came places :=
  { h with box := h.box.turn ht (hn _ (.inl rfl)), row := h.row.turn ht (fun k hk => hn k (.inr (.inr hk))), spots := h.spots.turn ht (hn _ (.inr (.inl rfl))), fns := h.fns.turn ht hf }

theorem Tab.stay (h : Tab w bt fp cv pb N len reach came places) (hs : Stay w w') : Tab w' bt fp cv pb N len reach came places :=
  h.turn (S := fun _ => False) (Turn.of_stay hs) (fun _ _ e => e) (fun _ _ e => e)

theorem Tab.drew (h : Tab w bt fp cv pb N len reach came places) (n : Nat) : Tab (w.drewN n) bt fp cv pb N len reach came places :=
  h.turn (S := fun _ => False) (Turn.of_stay (Stay.drewN w n)) (fun _ _ e => e) (fun _ _ e => e)

theorem Tab.lt (h : Tab w bt fp cv pb N len reach came places) (k : Nat) (hk : foot bt pb cv k ∨ fnfoot fp k) : k < w.heap.size := by
  rcases hk with (rfl | rfl | hk) | hk
  · exact h.box.lt
  · exact h.spots.lt
  · rcases h.row with ⟨rfl, _⟩ | ⟨g, cap, rfl, hC⟩
    · simp [Value.ownBlock] at hk
    · simp [Value.ownBlock] at hk; subst hk; exact hC.lt
  · exact h.fns.lt k hk

/-- One more list that lies in memory may be asked for. -/
theorem Tab.more (h : Tab w bt fp cv pb N len reach came places) (k : LK) (hk : IntsS w k.a k.b k.off k.l) (hl : k.l.length ≤ maxLen) (hn : 0 < k.l.length → ¬ foot bt pb cv k.b) : Tab w bt (k :: fp) cv pb N len reach came places := by
  refine { h with box := h.box, fns := ?_, keys := fun t e he hth => ⟨(h.keys t e he hth).1, List.mem_cons_of_mem _ (h.keys t e he hth).2⟩, uniq := h.uniq, apart := ?_ }
  · intro x hx
    rcases List.mem_cons.1 hx with rfl | hx
    · exact ⟨hk, hl⟩
    · exact h.fns x hx
  · rintro j ⟨x, hx, h0, rfl⟩
    rcases List.mem_cons.1 hx with rfl | hx
    · have := hn h0
      unfold foot at this
      simp only [not_or] at this
      exact this
    · exact h.apart _ ⟨x, hx, h0, rfl⟩

/-- Lists that are no keys are let go. -/
theorem Tab.less (h : Tab w bt fp cv pb N len reach came places) {fp' : List LK} (hs : ∀ k, k ∈ fp' → k ∈ fp) (hk : ∀ (t : Nat) (e : E), came[t]? = some e → e.there = true → e.key ∈ fp') : Tab w bt fp' cv pb N len reach came places :=
  { h with box := h.box, fns := fun x hx => h.fns x (hs x hx), keys := fun t e he hth => ⟨(h.keys t e he hth).1, hk t e he hth⟩, uniq := h.uniq, apart := fun _ ⟨x, hx, h0, hb⟩ => h.apart _ ⟨x, hs x hx, h0, hb⟩ }

theorem hit_iff (e : E) (k : LK) (he : e.hash = hf fp e.key) : hit fp (hf fp k) k e = sm fp e.key k := by
  unfold hit
  cases hs : sm fp e.key k
  · simp
  · rw [he, sm_hash hs]; simp

theorem Tab.search (h : Tab w bt fp cv pb N len reach came places) (k : LK) (hk : KeyOk fp k) :
    Calls Try.prog 78 #[.pointer (some ⟨bt, 0, none⟩), k.v, .int .u64 ((hf fp k : Nat) : Int)] w fun e w' => ∃ r : Nat, e = .returned (.int .i64 (r : Int)) ∧ Ends N (hf fp k % N) came places (hit fp (hf fp k) k) r ∧ Stay w w' :=
  search_any cv h.box.c1 h.box.c2 h.box.c3 h.pow h.fns h.row h.spots h.lies.len (fun p t hp => by
    obtain ⟨_, e, h1, h2, _⟩ := h.lies.back p t hp
    exact ⟨e, h1, (h.keys t e h1 h2).2⟩) (by have := h.zer; have := h.few; have := h.eight; omega) k hk _ (hf_lt fp k)

/-- Where the search of a key that is there ends. -/
theorem Tab.ends_yes (h : Tab w bt fp cv pb N len reach came places) {k : LK} {r t : Nat} {e : E} (hE : Ends N (hf fp k % N) came places (hit fp (hf fp k) k) r) (he : came[t]? = some e) (hth : e.there = true) (hs : sm fp e.key k = true) :
    r = e.place ∧ places[r]? = some (t + 1) := by
  have hkey := h.keys t e he hth
  refine hE.found h.lies (Nat.mod_lt _ h.pow.bd.1) he hth (by rw [hit_iff e k hkey.1]; exact hs) (by rw [hkey.1, sm_hash hs]) ?_
  intro t' e' he' hth' hf'
  rw [hit_iff e' k (h.keys t' e' he' hth').1] at hf'
  exact h.uniq t' e' t e he' hth' he hth (sm_trans hf' (sm_symm hs))

theorem Tab.ends_no (h : Tab w bt fp cv pb N len reach came places) {k : LK} {r : Nat} (hE : Ends N (hf fp k % N) came places (hit fp (hf fp k) k) r) (hno : ∀ (t : Nat) (e : E), came[t]? = some e → e.there = true → sm fp e.key k = false) :
    Free N (hf fp k % N) places r :=
  hE.none h.lies fun t e he hth => by rw [hit_iff e k (h.keys t e he hth).1]; exact hno t e he hth

theorem Row.at (h : Row w cv came) {t : Nat} {e : E} (he : came[t]? = some e) : ∃ g cap, cv = .slice (some ⟨g, 0, none⟩) came.length cap ∧ Came w g cap came := by
  rcases h with ⟨_, h0⟩ | h
  · subst h0; simp at he
  · exact h

theorem Tab.atYes (h : Tab w bt fp cv pb N len reach came places) {g cap t r : Nat} (hr : r < N) (hp : places[r]? = some (t + 1)) (hcv : cv = .slice (some ⟨g, 0, none⟩) came.length cap) (hC : Came w g cap came) {W : World} (hW : Stay w W) :
    Calls Try.prog 77 #[.pointer (some ⟨bt, 0, none⟩), .int .i64 (r : Int)] W fun e w' => e = .returned (.pointer (some ⟨g, t * 5, none⟩)) ∧ ∃ k, w' = W.drewN k := by
  have hc2 := h.box.c2
  rw [hcv] at hc2
  obtain ⟨_, e, h1, _⟩ := h.lies.back r t hp
  exact at_some (w := W) g came.length cap (hW.cell hc2) (h.box.c3.imp fun _ hc => hW.cell hc) h.pow r t hr (hW.cell (h.spots.cell r (t + 1) hp)) (List.getElem?_eq_some_iff.1 h1).1 (by have := hC.len; omega)

theorem Tab.atNo (h : Tab w bt fp cv pb N len reach came places) {r : Nat} (hr : r < N) (hp : places[r]? = some 0) {W : World} (hW : Stay w W) :
    Calls Try.prog 77 #[.pointer (some ⟨bt, 0, none⟩), .int .i64 (r : Int)] W fun e w' => e = .returned (.pointer none) ∧ w' = W :=
  at_none (w := W) (h.box.c3.imp fun _ hc => hW.cell hc) h.pow r hr (hW.cell (h.spots.cell r 0 hp))

set_option maxRecDepth 100000 in
theorem find_yes (h : Tab w bt fp cv pb N len reach came places) (k : LK) (hk : KeyOk fp k) {g cap t : Nat} {e : E} (hcv : cv = .slice (some ⟨g, 0, none⟩) came.length cap) (hC : Came w g cap came) (he : came[t]? = some e) (hth : e.there = true) (hs : sm fp e.key k = true) :
    Calls Try.prog 75 #[.pointer (some ⟨bt, 0, none⟩), k.v] w fun e w' => e = .returned (.pointer (some ⟨g, t * 5, none⟩)) ∧ Stay w w' := by
  have hm := made_yes h.box.c0
  have hh := hash_any h.fns k hk
  have hse := h.search k hk
  have c0 := h.box.c0
  have HA : Hid (∀ r, Ends N (hf fp k % N) came places (hit fp (hf fp k) k) r → ∀ W, Stay w W → Calls Try.prog 77 #[.pointer (some ⟨bt, 0, none⟩), .int .i64 (r : Int)] W fun e w' => e = .returned (.pointer (some ⟨g, t * 5, none⟩)) ∧ ∃ k, w' = W.drewN k) :=
    fun r hE W hW => h.atYes hE.lt (h.ends_yes hE he hth hs).2 hcv hC hW
  clear h hC he hcv
  go_enter Try.func75, Try.ntmps75
  go_wp2_with fail
  refine hm.mono ?_
  rintro e9 w9 ⟨rfl, hw⟩
  have hw' := hw.symm; subst hw'
  clear hm
  go_wp2_with fail
  refine hh.mono ?_
  rintro e9 w9 ⟨rfl, hw⟩
  have hw' := hw.symm; subst hw'
  clear hh
  go_wp2_with fail
  refine hse.mono ?_
  rintro e9 W ⟨r, rfl, hE, hW⟩
  have hat := HA.out r hE W hW
  have HWW : Hid (Stay w W) := hW
  have c0 := hW.cell c0
  clear hW
  clear hse HA
  go_wp2_with fail
  refine hat.mono ?_
  rintro e9 w9 ⟨rfl, n2, hw⟩
  have HW : Hid (w9 = W.drewN n2) := hw
  clear hat hw
  go_wp2
  go_ret
  exact ⟨rfl, by rw [HW.out]; exact HWW.out.trans (Stay.drewN _ _)⟩

set_option maxRecDepth 100000 in
theorem find_no (h : Tab w bt fp cv pb N len reach came places) (k : LK) (hk : KeyOk fp k) (hno : ∀ (t : Nat) (e : E), came[t]? = some e → e.there = true → sm fp e.key k = false) :
    Calls Try.prog 75 #[.pointer (some ⟨bt, 0, none⟩), k.v] w fun e w' => e = .returned (.pointer none) ∧ Stay w w' := by
  have hm := made_yes h.box.c0
  have hh := hash_any h.fns k hk
  have hse := h.search k hk
  have c0 := h.box.c0
  have HA : Hid (∀ r, Ends N (hf fp k % N) came places (hit fp (hf fp k) k) r → ∀ W, Stay w W → Calls Try.prog 77 #[.pointer (some ⟨bt, 0, none⟩), .int .i64 (r : Int)] W fun e w' => e = .returned (.pointer none) ∧ w' = W) :=
    fun r hE W hW => h.atNo hE.lt (h.ends_no hE hno).2.1 hW
  clear h hno
  go_enter Try.func75, Try.ntmps75
  go_wp2_with fail
  refine hm.mono ?_
  rintro e9 w9 ⟨rfl, hw⟩
  have hw' := hw.symm; subst hw'
  clear hm
  go_wp2_with fail
  refine hh.mono ?_
  rintro e9 w9 ⟨rfl, hw⟩
  have hw' := hw.symm; subst hw'
  clear hh
  go_wp2_with fail
  refine hse.mono ?_
  rintro e9 W ⟨r, rfl, hE, hW⟩
  have hat := HA.out r hE W hW
  have HWW : Hid (Stay w W) := hW
  have c0 := hW.cell c0
  clear hW
  clear hse HA
  go_wp2_with fail
  refine hat.mono ?_
  rintro e9 w9 ⟨rfl, hw⟩
  have HW : Hid (w9 = W) := hw
  clear hat hw
  go_wp2
  go_ret
  exact ⟨rfl, by rw [HW.out]; exact HWW.out⟩

theorem find_not {p : Value} (k : LK) (h : NoTab p w) : Calls Try.prog 75 #[p, k.v] w fun e w' => e = .returned (.pointer none) ∧ w' = w := by
  have hm : Calls Try.prog 76 #[p] w fun e w' => e = .returned (.bool false) ∧ w' = w := h
  clear h
  go_enter Try.func75, Try.ntmps75
  go_wp2_with fail
  refine hm.mono ?_
  rintro e9 w9 ⟨rfl, hw⟩
  have hw' := hw.symm; subst hw'
  clear hm
  go_wp2
  go_ret
  exact ⟨rfl, rfl⟩

theorem len_not {p : Value} (h : NoTab p w) : Calls Try.prog 64 #[p] w fun e w' => e = .returned (.int .i64 0) ∧ w' = w := by
  have hm : Calls Try.prog 76 #[p] w fun e w' => e = .returned (.bool false) ∧ w' = w := h
  clear h
  go_enter Try.func64, Try.ntmps64
  go_wp2_with fail
  refine hm.mono ?_
  rintro e9 w9 ⟨rfl, hw⟩
  have hw' := hw.symm; subst hw'
  clear hm
  go_wp2
  go_ret
  exact ⟨rfl, rfl⟩

theorem len_yes (h : Tab w bt fp cv pb N len reach came places) : Calls Try.prog 64 #[.pointer (some ⟨bt, 0, none⟩)] w fun e w' => e = .returned (.int .i64 (len : Int)) ∧ w' = w := by
  have hm := made_yes h.box.c0
  have c4 := h.box.c4
  clear h
  go_enter Try.func64, Try.ntmps64
  go_wp2_with fail
  refine hm.mono ?_
  rintro e9 w9 ⟨rfl, hw⟩
  have hw' := hw.symm; subst hw'
  clear hm
  go_wp2
  go_ret
  exact ⟨rfl, rfl⟩
end
end Go.Proofs.Ytnhmjheipfopoaa.L
