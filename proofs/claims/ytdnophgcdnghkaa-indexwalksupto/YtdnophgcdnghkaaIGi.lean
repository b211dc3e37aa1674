/- A table whole: what it is; the calls that only read. -/
import Derived.Test.YtdnophgcdnghkaaIEi
namespace Go.Proofs.Ytdnophgcdnghkaa.I
open Go.RowKit Go.Maps Go.Proofs.Ytdnophgcdnghkaa

/-- At block bt lies a table into which came has come. -/
structure Tab (w : World) (bt : Nat) (fp : Nat × Nat × Int) (cv : Value) (pb N len reach : Nat) (came : List E) (places : List Nat) : Prop where
  box : Box w bt fp cv pb N len reach
  row : Row w cv came
  spots : Spots w pb places
  fns : Fns w fp
  pow : Pow N
  eight : 8 ≤ N
  lies : Lies N came.length reach came places
  zer : zeros places + len = N
  cnt : len = (live came).length
  few : 4 * len ≤ 3 * N
  rlt : reach < N
  keys : ∀ (t : Nat) (e : E), came[t]? = some e → e.there = true → e.hash = hf fp e.key ∧ KeyOk e.key
  uniq : ∀ (t : Nat) (e : E) (t' : Nat) (e' : E), came[t]? = some e → e.there = true → came[t']? = some e' → e'.there = true → sm fp e.key e'.key = true → t = t'
  apart : ∀ k, fnfoot fp k → k ≠ bt ∧ k ≠ pb ∧ cv.ownBlock ≠ some k
  two : bt ≠ pb ∧ cv.ownBlock ≠ some bt ∧ cv.ownBlock ≠ some pb
  short : came.length ≤ 1099511627776

/-- The blocks of a table. -/
def foot (bt pb : Nat) (cv : Value) (k : Nat) : Prop := k = bt ∨ k = pb ∨ cv.ownBlock = some k

section
variable {w w' : World} {bt pb N len reach : Nat} {fp : Nat × Nat × Int} {cv : Value} {came : List E} {places : List Nat}

theorem Row.turn {S : Nat → Prop} (h : Row w cv came) (ht : Turn S w w') (hn : ∀ k, cv.ownBlock = some k → ¬ S k) : Row w' cv came := by
  rcases h with h | ⟨g, cap, rfl, hC⟩
  · exact .inl h
  · exact .inr ⟨g, cap, rfl, hC.turn ht (hn g rfl)⟩

theorem Tab.turn {S : Nat → Prop} (h : Tab w bt fp cv pb N len reach came places) (ht : Turn S w w') (hn : ∀ k, foot bt pb cv k → ¬ S k) (hf : ∀ k, fnfoot fp k → ¬ S k) : Tab w' bt fp cv pb N len reach came places :=
  { h with box := h.box.turn ht (hn _ (.inl rfl)), row := h.row.turn ht (fun k hk => hn k (.inr (.inr hk))), spots := h.spots.turn ht (hn _ (.inr (.inl rfl))), fns := h.fns.turn ht hf }

theorem Tab.drew (h : Tab w bt fp cv pb N len reach came places) (n : Nat) : Tab (w.drewN n) bt fp cv pb N len reach came places :=
  h.turn (S := fun _ => False) (Turn.of_stay (Stay.drewN w n)) (fun _ _ e => e) (fun _ _ e => e)

theorem Tab.lt (h : Tab w bt fp cv pb N len reach came places) (k : Nat) (hk : foot bt pb cv k ∨ fnfoot fp k) : k < w.heap.size := by
  rcases hk with (rfl | rfl | hk) | hk
  · exact h.box.lt
  · exact h.spots.lt
  · rcases h.row with ⟨rfl, _⟩ | ⟨g, cap, rfl, hC⟩
    · simp [Value.ownBlock] at hk
    · simp [Value.ownBlock] at hk; subst hk; exact hC.lt
  · exact h.fns.lt k hk

theorem hit_iff (e : E) (k : Int) (he : e.hash = hf fp e.key) : hit fp (hf fp k) k e = sm fp e.key k := by
  unfold hit
  cases hs : sm fp e.key k
  · simp
  · rw [he, sm_hash hs]; simp

theorem Tab.search (h : Tab w bt fp cv pb N len reach came places) (k : Int) (hk : KeyOk k) :
    Calls Try.prog 42 #[.pointer (some ⟨bt, 0, none⟩), .int .i64 (k), .int .u64 ((hf fp k : Nat) : Int)] w fun e w' => ∃ r : Nat, e = .returned (.int .i64 (r : Int)) ∧ Ends N (hf fp k % N) came places (hit fp (hf fp k) k) r ∧ ∃ n, w' = w.drewN n :=
  search_any cv h.box.c1 h.box.c2 h.box.c3 h.pow h.fns h.row h.spots h.lies.len (fun p t hp => by
    obtain ⟨_, e, h1, h2, _⟩ := h.lies.back p t hp
    exact ⟨e, h1, (h.keys t e h1 h2).2⟩) (by have := h.zer; have := h.few; have := h.eight; omega) k hk _ (hf_lt fp k)

/-- Where the search of a key that is there ends. -/
theorem Tab.ends_yes (h : Tab w bt fp cv pb N len reach came places) {k : Int} {r t : Nat} {e : E} (hE : Ends N (hf fp k % N) came places (hit fp (hf fp k) k) r) (he : came[t]? = some e) (hth : e.there = true) (hs : sm fp e.key k = true) :
    r = e.place ∧ places[r]? = some (t + 1) := by
  have hkey := h.keys t e he hth
  refine hE.found h.lies (Nat.mod_lt _ h.pow.bd.1) he hth (by rw [hit_iff e k hkey.1]; exact hs) (by rw [hkey.1, sm_hash hs]) ?_
  intro t' e' he' hth' hf'
  rw [hit_iff e' k (h.keys t' e' he' hth').1] at hf'
  exact h.uniq t' e' t e he' hth' he hth (sm_trans hf' (sm_symm hs))

theorem Tab.ends_no (h : Tab w bt fp cv pb N len reach came places) {k : Int} {r : Nat} (hE : Ends N (hf fp k % N) came places (hit fp (hf fp k) k) r) (hno : ∀ (t : Nat) (e : E), came[t]? = some e → e.there = true → sm fp e.key k = false) :
    Free N (hf fp k % N) places r :=
  hE.none h.lies fun t e he hth => by rw [hit_iff e k (h.keys t e he hth).1]; exact hno t e he hth

theorem Row.at (h : Row w cv came) {t : Nat} {e : E} (he : came[t]? = some e) : ∃ g cap, cv = .slice (some ⟨g, 0, none⟩) came.length cap ∧ Came w g cap came := by
  rcases h with ⟨_, h0⟩ | h
  · subst h0; simp at he
  · exact h

theorem Tab.atYes (h : Tab w bt fp cv pb N len reach came places) {g cap t r : Nat} (hr : r < N) (hp : places[r]? = some (t + 1)) (hcv : cv = .slice (some ⟨g, 0, none⟩) came.length cap) (hC : Came w g cap came) (n : Nat) :
    Calls Try.prog 41 #[.pointer (some ⟨bt, 0, none⟩), .int .i64 (r : Int)] (w.drewN n) fun e w' => e = .returned (.pointer (some ⟨g, t * 5, none⟩)) ∧ ∃ k, w' = (w.drewN n).drewN k := by
  have hc2 := h.box.c2
  rw [hcv] at hc2
  obtain ⟨_, e, h1, _⟩ := h.lies.back r t hp
  exact at_some (w := w.drewN n) g came.length cap hc2 h.box.c3 h.pow r t hr (h.spots.cell r (t + 1) hp) (List.getElem?_eq_some_iff.1 h1).1 (by have := hC.len; omega)

theorem Tab.atNo (h : Tab w bt fp cv pb N len reach came places) {r : Nat} (hr : r < N) (hp : places[r]? = some 0) (n : Nat) :
    Calls Try.prog 41 #[.pointer (some ⟨bt, 0, none⟩), .int .i64 (r : Int)] (w.drewN n) fun e w' => e = .returned (.pointer none) ∧ w' = w.drewN n :=
  at_none (w := w.drewN n) h.box.c3 h.pow r hr (h.spots.cell r 0 hp)

set_option maxRecDepth 100000 in
theorem find_yes (h : Tab w bt fp cv pb N len reach came places) (k : Int) (hk : KeyOk k) {g cap t : Nat} {e : E} (hcv : cv = .slice (some ⟨g, 0, none⟩) came.length cap) (hC : Came w g cap came) (he : came[t]? = some e) (hth : e.there = true) (hs : sm fp e.key k = true) :
    Calls Try.prog 47 #[.pointer (some ⟨bt, 0, none⟩), .int .i64 (k)] w fun e w' => e = .returned (.pointer (some ⟨g, t * 5, none⟩)) ∧ ∃ n, w' = w.drewN n := by
  have hm := made_yes h.box.c0
  have hh := hash_any h.fns k hk
  have hse := h.search k hk
  have c0 := h.box.c0
  have HA : Hid (∀ r, Ends N (hf fp k % N) came places (hit fp (hf fp k) k) r → ∀ n, Calls Try.prog 41 #[.pointer (some ⟨bt, 0, none⟩), .int .i64 (r : Int)] (w.drewN n) fun e w' => e = .returned (.pointer (some ⟨g, t * 5, none⟩)) ∧ ∃ k, w' = (w.drewN n).drewN k) :=
    fun r hE n => h.atYes hE.lt (h.ends_yes hE he hth hs).2 hcv hC n
  clear h hC he hcv
  go_enter Try.func47, Try.ntmps47
  go_wp2_with fail
  refine hm.mono ?_
  rintro e9 w9 ⟨rfl, hw⟩
  have hw' := hw.symm; subst hw'
  clear hm
  go_wp2_with fail
  refine hh.mono ?_
  rintro e9 w9 ⟨rfl, hw⟩
  have hw' := hw.symm; subst hw'
  clear hh
  go_wp2_with fail
  refine hse.mono ?_
  rintro e9 w9 ⟨r, rfl, hE, n, rfl⟩
  have hat := HA.out r hE n
  clear hse HA
  go_wp2_with fail
  refine hat.mono ?_
  rintro e9 w9 ⟨rfl, n2, hw⟩
  have HW : Hid (w9 = (w.drewN n).drewN n2) := hw
  clear hat hw
  go_wp2
  go_ret
  exact ⟨rfl, _, by rw [HW.out, World.drewN_drewN]⟩

set_option maxRecDepth 100000 in
theorem find_no (h : Tab w bt fp cv pb N len reach came places) (k : Int) (hk : KeyOk k) (hno : ∀ (t : Nat) (e : E), came[t]? = some e → e.there = true → sm fp e.key k = false) :
    Calls Try.prog 47 #[.pointer (some ⟨bt, 0, none⟩), .int .i64 (k)] w fun e w' => e = .returned (.pointer none) ∧ ∃ n, w' = w.drewN n := by
  have hm := made_yes h.box.c0
  have hh := hash_any h.fns k hk
  have hse := h.search k hk
  have c0 := h.box.c0
  have HA : Hid (∀ r, Ends N (hf fp k % N) came places (hit fp (hf fp k) k) r → ∀ n, Calls Try.prog 41 #[.pointer (some ⟨bt, 0, none⟩), .int .i64 (r : Int)] (w.drewN n) fun e w' => e = .returned (.pointer none) ∧ w' = w.drewN n) :=
    fun r hE n => h.atNo hE.lt (h.ends_no hE hno).2.1 n
  clear h hno
  go_enter Try.func47, Try.ntmps47
  go_wp2_with fail
  refine hm.mono ?_
  rintro e9 w9 ⟨rfl, hw⟩
  have hw' := hw.symm; subst hw'
  clear hm
  go_wp2_with fail
  refine hh.mono ?_
  rintro e9 w9 ⟨rfl, hw⟩
  have hw' := hw.symm; subst hw'
  clear hh
  go_wp2_with fail
  refine hse.mono ?_
  rintro e9 w9 ⟨r, rfl, hE, n, rfl⟩
  have hat := HA.out r hE n
  clear hse HA
  go_wp2_with fail
  refine hat.mono ?_
  rintro e9 w9 ⟨rfl, hw⟩
  have HW : Hid (w9 = w.drewN n) := hw
  clear hat hw
  go_wp2
  go_ret
  exact ⟨rfl, _, HW.out⟩

theorem find_not {p : Value} (k : Int) (h : NoTab p w) : Calls Try.prog 47 #[p, .int .i64 (k)] w fun e w' => e = .returned (.pointer none) ∧ w' = w := by
  have hm : Calls Try.prog 40 #[p] w fun e w' => e = .returned (.bool false) ∧ w' = w := h
  clear h
  go_enter Try.func47, Try.ntmps47
  go_wp2_with fail
  refine hm.mono ?_
  rintro e9 w9 ⟨rfl, hw⟩
  have hw' := hw.symm; subst hw'
  clear hm
  go_wp2
  go_ret
  exact ⟨rfl, rfl⟩

theorem len_not {p : Value} (h : NoTab p w) : Calls Try.prog 15 #[p] w fun e w' => e = .returned (.int .i64 0) ∧ w' = w := by
  have hm : Calls Try.prog 40 #[p] w fun e w' => e = .returned (.bool false) ∧ w' = w := h
  clear h
  go_enter Try.func15, Try.ntmps15
  go_wp2_with fail
  refine hm.mono ?_
  rintro e9 w9 ⟨rfl, hw⟩
  have hw' := hw.symm; subst hw'
  clear hm
  go_wp2
  go_ret
  exact ⟨rfl, rfl⟩

theorem len_yes (h : Tab w bt fp cv pb N len reach came places) : Calls Try.prog 15 #[.pointer (some ⟨bt, 0, none⟩)] w fun e w' => e = .returned (.int .i64 (len : Int)) ∧ w' = w := by
  have hm := made_yes h.box.c0
  have c4 := h.box.c4
  clear h
  go_enter Try.func15, Try.ntmps15
  go_wp2_with fail
  refine hm.mono ?_
  rintro e9 w9 ⟨rfl, hw⟩
  have hw' := hw.symm; subst hw'
  clear hm
  go_wp2
  go_ret
  exact ⟨rfl, rfl⟩
end
end Go.Proofs.Ytdnophgcdnghkaa.I
