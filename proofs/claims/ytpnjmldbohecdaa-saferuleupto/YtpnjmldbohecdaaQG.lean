/- Sets of names: maps of texts to nothing. What is put for the first time. Places whose variable has not stood ahead: once. Places that bind their variable: binding. -/
import Derived.Test.YtpnjmldbohecdaaQD
import Derived.MapKept
import Derived.Maps.OwnSet
import Derived.Laws.EntriesVeiled
namespace Go.Proofs.Ytpnjmldbohecdaa
open Go.RowKit Go.Maps Go.Shelf
attribute [local go_sem] Oper.semAt_some

theorem lawfulB : LawfulBEq ByteArray := {
  eq_of_beq := fun h => (MapKept.bytes_beq _ _).1 h
  rfl := (MapKept.bytes_beq _ _).2 rfl }
instance : LawfulBEq ByteArray := lawfulB
def keyB (s : ByteArray) : Lit := .string s.data.toList
theorem keyB_inj {s t : ByteArray} (h : keyB s = keyB t) : s = t := by
  unfold keyB at h
  injection h with h
  exact ByteArray.ext (Array.ext' h)
theorem lawS : Keyed Try.prog 9 := string_keyed Try.underlying9
theorem keyS {s : ByteArray} (hs : s.size ≤ 1048576) : keyOf Try.prog 9 (.string s) = some (keyB s) := WideMaps.keyOf_string_mk Try.underlying9 (by unfold maxLen; omega)

/-- Is a name among these? -/
def inB (us : List ByteArray) (s : ByteArray) : Bool := us.contains s
theorem inB_iff (us : List ByteArray) (s : ByteArray) : inB us s = true ↔ s ∈ us := by simp [inB]
theorem inB_no (us : List ByteArray) (s : ByteArray) : inB us s = false ↔ s ∉ us := by rw [← inB_iff]; simp
theorem inB_snoc (us : List ByteArray) (s t : ByteArray) : inB (us ++ [s]) t = (inB us t || t == s) := by rw [Bool.eq_iff_iff]; simp [inB]
/-- At bm lies a set into which the names us have been put. -/
def SetM (w : World) (bm : Nat) (us : List ByteArray) : Prop :=
  ∃ D : DataW Unit, w.ownsMap Try.prog 9 unitElem bm us.length D ∧ ∀ s, has D (keyB s) = inB us s
theorem SetM.keep {w w' : World} {bm : Nat} {us : List ByteArray} (h : SetM w bm us) (hb : w'.heap[bm]? = w.heap[bm]?) : SetM w' bm us := by
  obtain ⟨D, ⟨es, clock, h1, h2⟩, h3⟩ := h
  exact ⟨D, ⟨es, clock, hb.trans h1, h2⟩, h3⟩
theorem SetM.lt {w : World} {bm : Nat} {us : List ByteArray} (h : SetM w bm us) : bm < w.heap.size := by
  obtain ⟨D, h1, _⟩ := h; exact h1.lt
theorem SetM.obj {w : World} {bm : Nat} {us : List ByteArray} (h : SetM w bm us) : ∃ o, w.heap[bm]? = some o ∧ o.isCells = false := by
  obtain ⟨D, ⟨es, clock, h1, _⟩, _⟩ := h
  exact ⟨_, h1, rfl⟩
theorem setM_new (w : World) : SetM (w.alloc (.map #[] 0)) w.heap.size [] := ⟨_, w.ownsMap_made _ _ _, fun s => by simp [has, inB]⟩
theorem run_mapS (W : World) : (Instr.makeMap 78 none).run Try.prog W = .ok (.map (some W.heap.size)) (W.alloc (.map #[] 0)) := by kernel_rfl

set_option maxRecDepth 100000 in
theorem put_any (w : World) (bm : Nat) (us : List ByteArray) (s : ByteArray) (h : SetM w bm us) (hs : s.size ≤ 1048576) (hn : us.length < 1099511627776000) :
    Calls Try.prog 41 #[.map (some bm), .string s] w fun e w' => e = .returned (.bool (!inB us s)) ∧ SetM w' bm (us ++ [s]) ∧ w.grownBy w' (some bm) := by
  obtain ⟨D, hD, hh⟩ := h
  have hkey := keyS hs
  have hti : Tidy D := hD.tidy lawS
  have hsz : size (D.put (keyB s) (.agg [])) = if has D (keyB s) then size D else size D + 1 := size_put hti _
  have HF : Hid (∀ t, has (D.put (keyB s) (.agg [])) (keyB t) = inB (us ++ [s]) t) := fun t => by
    by_cases e : t = s
    · subst e
      rw [has_put_same hti.isMap (by simp [keyB, WideAt.IsKeyLit]), inB_snoc]
      simp
    · rw [has_put_other (fun h => e (keyB_inj h)), hh t, inB_snoc]
      simp [e]
  have Hc : Hid (has D (keyB s) = inB us s) := hh s
  have hn' : us.length < maxLen := by unfold maxLen; omega
  clear hh hti
  go_enter Try.func41, Try.ntmps41
  go_wp2_with (first | (at_len; refine wpList_len_own _ rfl _ _ rfl 9 93 Try.underlying78 _ bm _ D rfl hD ?_) | (at_mapUpdate; refine wpList_mapUpdate_own _ rfl _ _ _ _ rfl 9 93 lawS Try.underlying78 _ bm _ D rfl hD hn' _ _ _ rfl rfl hkey _ [] unitElem_mk ?_; intro w1 hD1 hg1) | (at_len; refine wpList_len_own _ rfl _ _ rfl 9 93 Try.underlying78 _ bm _ _ rfl hD1 ?_))
  · have hc := h
    go_ret
    refine ⟨?_, ⟨_, by simpa using hD1, HF.out⟩, hg1⟩
    rw [← Hc.out, hc]
    rfl
  · have hc := h
    go_ret
    refine ⟨?_, ⟨_, by simpa using hD1, HF.out⟩, hg1⟩
    rw [← Hc.out, Bool.not_eq_true _ |>.mp hc]
    rfl

/-- What is chosen out of a list, one by one, by what stands ahead. -/
def selF {α : Type} (c : List α → α → Bool) : List α → List α → List α
  | _, [] => []
  | pre, x :: xs => (if c pre x then [x] else []) ++ selF c (pre ++ [x]) xs
def sel {α : Type} (c : List α → α → Bool) (xs : List α) : List α := selF c [] xs
theorem selF_app {α : Type} (c : List α → α → Bool) : ∀ (pre xs ys : List α), selF c pre (xs ++ ys) = selF c pre xs ++ selF c (pre ++ xs) ys
  | pre, [], ys => by simp [selF]
  | pre, x :: xs, ys => by simp only [List.cons_append, selF]; rw [selF_app c (pre ++ [x]) xs ys]; simp
theorem sel_snoc {α : Type} (c : List α → α → Bool) (xs : List α) (x : α) : sel c (xs ++ [x]) = sel c xs ++ (if c xs x then [x] else []) := by
  unfold sel; rw [selF_app]; simp [selF]
theorem sel_take {α : Type} (c : List α → α → Bool) {xs : List α} {k : Nat} (h : k < xs.length) : sel c (xs.take (k + 1)) = sel c (xs.take k) ++ (if c (xs.take k) xs[k] then [xs[k]] else []) := by
  rw [List.take_add_one, List.getElem?_eq_getElem h, Option.toList_some, sel_snoc]
theorem sel_at {α : Type} (c : List α → α → Bool) {xs : List α} {k : Nat} (h : k < xs.length) (hc : c (xs.take k) xs[k] = true) : ∃ hk : (sel c (xs.take k)).length < (sel c xs).length, (sel c xs)[(sel c (xs.take k)).length] = xs[k] := by
  have e : sel c xs = sel c (xs.take k) ++ (xs[k] :: selF c (xs.take (k + 1)) (xs.drop (k + 1))) := by
    have h1 := sel_take c h
    rw [if_pos hc] at h1
    have h2 := selF_app c [] (xs.take (k + 1)) (xs.drop (k + 1))
    rw [List.take_append_drop, List.nil_append] at h2
    show selF c [] xs = _
    rw [h2, show selF c [] (xs.take (k + 1)) = _ from h1]
    simp
  have hk : (sel c (xs.take k)).length < (sel c xs).length := by rw [e]; simp
  refine ⟨hk, ?_⟩
  rw [List.getElem_of_eq e]
  simp
/-- A name that did not stand ahead. -/
def newC (pre : List (Int × ByteArray)) (p : Int × ByteArray) : Bool := !inB (pre.map (·.2)) p.2
end Go.Proofs.Ytpnjmldbohecdaa
namespace Go.Proofs.Ytpnjmldbohecdaa
open Go.RowKit Go.Maps Go.Shelf
attribute [local go_sem] Oper.semAt_some

theorem once_any (gf : Nat) (lb : Array Value) (w : World) : Calls Try.prog 22 #[.func (.func gf) #[] lb] w fun e w' => e = .returned (.func (.func 40) #[] #[.pointer (some ⟨w.heap.size, 0, none⟩)]) ∧ w' = w.alloc (.cells #[.func (.func gf) #[] lb] 61) := by
  go_enter Try.func22, Try.ntmps22
  go_wp2
  go_ret
  exact ⟨rfl, rfl⟩

theorem grown_holds {A B : World} {r : Nat} (h : A.grownBy B (some r)) {S : Nat → Prop} (hs : ∀ i, S i → i < A.heap.size ∧ i ≠ r) : Holds S A B := fun i hi => h.block i (hs i hi).1 (by have := (hs i hi).2; simp [this])

theorem grown_below {A B : World} {r n : Nat} (h : A.grownBy B (some r)) (hn : n ≤ A.heap.size) (hr : n ≤ r) : Below n A B :=
  ⟨h.os, h.tape, h.output, h.size, fun k hk => h.block k (by omega) (fun e => by have := Option.some.inj e; omega)⟩
set_option maxRecDepth 100000 in
set_option maxHeartbeats 4000000 in
theorem once_seq (Ow : TypeId → Prop) (hOw : ¬ Ow 87 ∧ ¬ Ow 78) (xs : List (Int × ByteArray)) (gf : Nat) (lb : Array Value) (eg : ∀ args w, (callFunc gf args).run Try.prog w = .ok (.enter gf args) w) (Bp : Nat) (Hs : Nat → Prop) (w : World) (hseq : SeqL Ow Try.prog gf lb encIS Hs xs w) (hB : w.heap[Bp]? = some (.cells #[.func (.func gf) #[] lb] 61 (0, 0))) (hs : ∀ p ∈ xs, p.2.size ≤ 1048576) (hn : xs.length < 1099511627776000) (hBp : Hs Bp) (hHs : ∀ i, Hs i → i < w.heap.size) :
    SeqL Ow Try.prog 40 #[.pointer (some ⟨Bp, 0, none⟩)] encIS Hs (sel newC xs) w := by
  intro l J Jx W hW hJ hJx hY h0
  have hBW : W.heap[Bp]? = some (.cells #[.func (.func gf) #[] lb] 61 (0, 0)) := (hW.block Bp (Array.getElem?_eq_some_iff.1 hB).1).trans hB
  have hHW : ∀ i, Hs i → i < W.heap.size := fun i hi => Nat.lt_of_lt_of_le (hHs i hi) hW.size
  have hqW := hseq.stay hW
  clear hB hHs hW hseq
  have cB : W.cell? ⟨Bp, 0, none⟩ = some (.func (.func gf) #[] lb) := by simp [World.cell?, hBW]
  have hBl : Bp < W.heap.size := hHW _ hBp
  have hmk := run_mapS
  refine (callsIn_wide (n := 8)).1 (callsIn_of_wp_marks Try.func40 rfl trivial ?_ rfl)
  simp only [Try.ntmps40, List.size_toArray, List.length_cons, List.length_nil, Nat.reduceAdd, Nat.reduceSub, Array.replicate_succ, Array.replicate_zero, List.push_toArray, List.append_toArray, List.nil_append, List.cons_append]
  obtain ⟨V, hV⟩ : ∃ V, V = ((W.alloc (.cells #[.func (.yield l) #[] #[]] 87)).alloc (.map #[] 0)).alloc (.cells #[.map (some (W.heap.size + 1))] 78) := ⟨_, rfl⟩
  have stV : Stay W V := by rw [hV]; exact ((Stay.new _ _).alloc _).alloc _
  have cV := stV.cell cB
  rw [hV] at cV
  gi_wp2
  rw [← hV]
  have sV : V.heap.size = W.heap.size + 3 := by rw [hV]; simp
  have v0 : V.heap[W.heap.size]? = some (.cells #[.func (.yield l) #[] #[]] 87 (0, 0)) := by
    rw [hV]; exact (Below.heap_alloc _ _ _ (by simp only [World.size_alloc]; omega)).trans ((Below.heap_alloc _ _ _ (by simp)).trans (heap_new _ _))
  have v1 : SetM V (W.heap.size + 1) [] := by
    have := setM_new (W.alloc (.cells #[.func (.yield l) #[] #[]] 87))
    rw [World.size_alloc] at this
    rw [hV]
    exact this.keep (Below.heap_alloc _ _ _ (by simp))
  have v2 : V.heap[W.heap.size + 1 + 1]? = some (.cells #[.map (some (W.heap.size + 1))] 78 (0, 0)) := by
    rw [hV]
    have := heap_new ((W.alloc (.cells #[.func (.yield l) #[] #[]] 87)).alloc (.map #[] 0)) (.cells #[.map (some (W.heap.size + 1))] 78)
    rwa [World.size_alloc, World.size_alloc] at this
  have hJV : J 0 V := hJ _ _ _ h0 (Bel.of_stay stV (Nat.le_refl _))
  have hHV : ∀ i, Hs i → i < V.heap.size := fun i hi => by have := hHW i hi; omega
  clear hV h0 hBW cB cV hmk
  refine' range_list (α := Int × ByteArray) (by decide) (gf := gf) (lb := lb) rfl eg (hqW.stay stV) hHV (fun _ => rfl)
    (fun k A => J (sel newC (xs.take k)).length A ∧ SetM A (W.heap.size + 1) ((xs.take k).map (·.2)) ∧ A.heap[W.heap.size]? = V.heap[W.heap.size]? ∧ A.heap[W.heap.size + 1 + 1]? = V.heap[W.heap.size + 1 + 1]? ∧ V.heap.size ≤ A.heap.size) (fun c k A => c = .ret ∧ (∃ j, j < (sel newC xs).length ∧ Jx (j + 1) A) ∧ V.heap.size ≤ A.heap.size) (fun k A A' hA hb => ?hI) (fun c k A A' hA hb => ?hIx) ⟨by simpa [sel, selF] using hJV, by simpa using v1, rfl, rfl, Nat.le_refl _⟩ (fun _ W => W) (fun _ W => Stay.refl W) _ ?assign ?body ?done ?stop
  case hI => exact ⟨hJ _ _ _ hA.1 (hb.mono (by omega)), hA.2.1.keep (hb.block _ (by omega)), (hb.block _ (by omega)).trans hA.2.2.1, (hb.block _ (by omega)).trans hA.2.2.2.1, Nat.le_trans hA.2.2.2.2 hb.size⟩
  case hIx =>
    obtain ⟨h1, ⟨j, hj, h2⟩, h3⟩ := hA
    exact ⟨h1, ⟨j, hj, hJx _ _ _ h2 (hb.mono (by omega))⟩, Nat.le_trans h3 hb.size⟩
  case assign =>
    intro l' y W' K hK
    dsimp only [encIS]
    gi_wp2
    exact hK
  case stop =>
    rintro c k A hk ⟨rfl, ⟨j, hj, hI⟩, hz⟩ hdd
    gi_wp2
    exact leaves_marks ((Marks.nil W.heap.size V.heap.size A).cons (T := V.heap.size + 1) V.heap.size (Nat.le_refl _) (by omega) (by omega) hdd) fun w' hw' => ⟨_, results_none rfl _ _ _, ⟨_, rfl⟩, .inr ⟨j, hj, hJx _ _ _ hI hw'⟩⟩
  case done =>
    rintro A ⟨hJA, -⟩ hdd
    rw [List.take_of_length_le (Nat.le_refl _)] at hJA
    have HJ : Hid (J (sel newC xs).length A) := hJA
    clear hJA hY hqW
    gi_wp2
    exact leaves_marks ((Marks.nil W.heap.size V.heap.size A).cons (T := V.heap.size + 1) V.heap.size (Nat.le_refl _) (by omega) (by omega) hdd) fun w' hw' => ⟨_, results_none rfl _ _ _, ⟨_, rfl⟩, .inl (hJ _ _ _ HJ.out hw')⟩
  case body =>
    intro l' k hk W' X hX ho hWs hl' hXs
    obtain ⟨hJX, hSX, hX0, hX2, hXz⟩ := hX
    have cY : X.cell? ⟨W.heap.size, 0, none⟩ = some (.func (.yield l) #[] #[]) := by
      have := hX0.trans v0
      simp [World.cell?, this]
    have cM : X.cell? ⟨W.heap.size + 1 + 1, 0, none⟩ = some (.map (some (W.heap.size + 1))) := by
      have := hX2.trans v2
      simp [World.cell?, this]
    obtain ⟨om, hom, hoc⟩ := hSX.obj
    have hlk : (xs.take k).length < 1099511627776000 := by rw [List.length_take]; omega
    have hput := put_any X (W.heap.size + 1) ((xs.take k).map (·.2)) xs[k].2 hSX (hs _ (List.getElem_mem hk)) (by simpa using hlk)
    have hst := sel_take newC hk
    have hnw : newC (xs.take k) xs[k] = !inB ((xs.take k).map (·.2)) xs[k].2 := rfl
    have hmp : (xs.take (k + 1)).map (·.2) = (xs.take k).map (·.2) ++ [xs[k].2] := by rw [List.take_add_one, List.getElem?_eq_getElem hk, Option.toList_some, List.map_append]; rfl
    rw [← hnw, ← hmp] at hput
    have HX : Hid (J (sel newC (xs.take k)).length X ∧ X.heap[W.heap.size]? = V.heap[W.heap.size]? ∧ X.heap[W.heap.size + 1 + 1]? = V.heap[W.heap.size + 1 + 1]? ∧ V.heap.size ≤ X.heap.size) := ⟨hJX, hX0, hX2, hXz⟩
    clear hJX hSX hX0 hX2 hXz ho hnw hqW hlk hJV v1
    cases hc : newC (xs.take k) xs[k]
    · rw [hc] at hput hst
      have HS : Hid (sel newC (xs.take (k + 1)) = sel newC (xs.take k)) := by show _ = _; simpa using hst
      generalize xs[k] = p at *
      obtain ⟨pi, ps⟩ := p
      clear hst hc hY
      dsimp only [encIS] at *
      gi_wp2_with (refine ⟨trivial, ?_⟩; gi_at_call 41; refine CallsIn.mono (CallsIn.inRound l' (callsIn_wide.2 hput)) ?_; rintro e w1 ⟨rfl, hS1, hg1⟩)
      refine ⟨fun _ h => (by cases h), ?_⟩
      gi_wp2
      obtain ⟨hJX, hX0, hX2, hXz⟩ := HX.out
      refine ⟨grown_holds hg1 fun i hi => ?_, hg1.size, by rw [HS.out]; exact hJ _ _ _ hJX (Bel.grown hg1 hom hoc (by omega) (by omega)), hS1, (hg1.block _ (by omega) (by simp)).trans hX0, (hg1.block _ (by omega) (by simp)).trans hX2, Nat.le_trans hXz hg1.size⟩
      rcases hi with hi | hi
      · have := hHW i hi; omega
      · have g1 := hi.1; have g2 := hi.2.1; omega
    · obtain ⟨hkk, hat⟩ := sel_at newC hk hc
      rw [hc] at hput hst
      have HS : Hid ((sel newC (xs.take (k + 1))).length = (sel newC (xs.take k)).length + 1) := by show _ = _; rw [hst]; simp
      have hYk := fun A h1 h2 => yield_any (l' := l') (m' := 8 - 1 - 1 - 1) (hY _ hkk A h1 h2)
      rw [hat] at hYk
      generalize xs[k] = p at *
      obtain ⟨pi, ps⟩ := p
      clear hst hc hY hat
      dsimp only [encIS] at *
      gi_wp2_with (refine ⟨trivial, ?_⟩; gi_at_call 41; refine CallsIn.mono (CallsIn.inRound l' (callsIn_wide.2 hput)) ?_; rintro e w1 ⟨rfl, hS1, hg1⟩; have cY1 : w1.cell? ⟨W.heap.size, 0, none⟩ = some (.func (.yield l) #[] #[]) := (World.cell?_of_block (hg1.block W.heap.size (by omega) (by simp))).trans cY; have hJ1 := hJ _ _ _ HX.out.1 (Bel.grown hg1 hom hoc (by omega) (by omega)); have hz1 := hg1.size; obtain ⟨fn, tmps, assign, body, hy, hR⟩ := hYk w1 hJ1 (by omega); have HG : Hid (SetM w1 (W.heap.size + 1) ((xs.take (k + 1)).map (·.2)) ∧ X.grownBy w1 (some (W.heap.size + 1))) := ⟨hS1, hg1⟩; clear hS1 hg1 hYk hput hJ1)
      refine hR.mono ?_
      rintro e9 W3 ⟨hh, hz, (⟨rfl, hJ3⟩ | ⟨rfl, hJx3⟩)⟩
      · have HH : Hid (Kep Ow Hs W.heap.size w1 W3 ∧ J ((sel newC (xs.take k)).length + 1) W3) := ⟨⟨hh, hz⟩, hJ3⟩
        clear hR hh hz hJ3
        gi_wp2
        obtain ⟨hJX, hX0, hX2, hXz⟩ := HX.out
        obtain ⟨hS1, hg1⟩ := HG.out
        obtain ⟨hK3, hJ3⟩ := HH.out
        obtain ⟨om1, hom1, hoc1⟩ := hS1.obj
        have k0 := hK3.get (i := W.heap.size) (.inr ⟨by omega, by omega, not_tyd ((hg1.block _ (by omega) (by simp)).trans (hX0.trans v0)) hOw.1⟩)
        have k1 := hK3.get (i := W.heap.size + 1) (.inr ⟨by omega, by omega, not_tyd_o hom1 hoc1⟩)
        have k2 := hK3.get (i := W.heap.size + 1 + 1) (.inr ⟨by omega, by omega, not_tyd ((hg1.block _ (by omega) (by simp)).trans (hX2.trans v2)) hOw.2⟩)
        refine ⟨(grown_holds hg1 fun i hi => ?_).trans (hK3.1.mono fun i hi => ?_), Nat.le_trans hg1.size hK3.2, by rw [HS.out]; exact hJ3, hS1.keep k1, k0.trans ((hg1.block _ (by omega) (by simp)).trans hX0), k2.trans ((hg1.block _ (by omega) (by simp)).trans hX2), by have := hK3.2; omega⟩
        · rcases hi with hi | hi
          · have := hHW i hi; omega
          · have g1 := hi.1; have g2 := hi.2.1; omega
        · rcases hi with hi | hi
          · exact .inl hi
          · have g1 := hi.1
            have g2 := hi.2.1
            exact .inr ⟨by omega, by omega, fun hT => hi.2.2 ((Tyd.same (hg1.block i g2 (by simp; omega))).1 hT)⟩
      · have HH : Hid (Kep Ow Hs W.heap.size w1 W3 ∧ Jx ((sel newC (xs.take k)).length + 1) W3) := ⟨⟨hh, hz⟩, hJx3⟩
        clear hR hh hz hJx3
        gi_wp2
        obtain ⟨hJX, hX0, hX2, hXz⟩ := HX.out
        obtain ⟨hS1, hg1⟩ := HG.out
        obtain ⟨hK3, hJ3⟩ := HH.out
        refine ⟨(grown_holds hg1 fun i hi => ?_).trans (hK3.1.mono fun i hi => ?_), Nat.le_trans hg1.size hK3.2, rfl, ⟨_, hkk, hJ3⟩, by have := hK3.2; omega⟩
        · rcases hi with hi | hi
          · have := hHW i hi; omega
          · have g1 := hi.1; have g2 := hi.2.1; omega
        · rcases hi with hi | hi
          · exact .inl hi
          · have g1 := hi.1
            have g2 := hi.2.1
            exact .inr ⟨by omega, by omega, fun hT => hi.2.2 ((Tyd.same (hg1.block i g2 (by simp; omega))).1 hT)⟩
end Go.Proofs.Ytpnjmldbohecdaa
namespace Go.Proofs.Ytpnjmldbohecdaa
open Go.RowKit Go.Maps Go.Shelf
attribute [local go_sem] Oper.semAt_some

/-- A body as a rule without a head. -/
def bodyRu (a : Option Addr) (b off cap : Nat) (ls : List Li) : Ru := ⟨⟨⟨#[]⟩, none, 0, 0, 0, []⟩, a, b, off, cap, ls⟩
theorem bodyRu_places (a : Option Addr) (b off cap : Nat) (ls : List Li) : placesR (bodyRu a b off cap ls) = placesB 0 ls := by simp [placesR, bodyRu, varsT]
/-- A place in a positive literal. -/
def bindC (ls : List Li) (_ : List (Int × ByteArray)) (p : Int × ByteArray) : Bool := match ls[p.1.toNat]? with
  | some l => l.kind == 1
  | none => false
theorem placesB_mem : ∀ (k : Nat) (ls : List Li) (p : Int × ByteArray), p ∈ placesB k ls → ∃ j, ∃ h : j < ls.length, p.1 = ((k + j : Nat) : Int) ∧ p.2 ∈ varsT ls[j].terms
  | _, [], p, h => by simp [placesB] at h
  | k, l :: ls, p, h => by
    unfold placesB at h
    rcases List.mem_append.1 h with h | h
    · obtain ⟨s, hs, rfl⟩ := List.mem_map.1 h
      exact ⟨0, by simp, by simp, by simpa using hs⟩
    · obtain ⟨j, hj, h1, h2⟩ := placesB_mem (k + 1) ls p h
      exact ⟨j + 1, by simpa using hj, by rw [h1]; congr 1; omega, by simpa using h2⟩
theorem bindC_at {ls : List Li} {p : Int × ByteArray} {pre : List (Int × ByteArray)} {j : Nat} (h : j < ls.length) (hp : p.1 = (j : Int)) : bindC ls pre p = (ls[j].kind == 1) := by
  unfold bindC; rw [hp, Int.toNat_natCast, List.getElem?_eq_getElem h]

theorem binding_any (a : Option Addr) (n c : Nat) (w : World) : Calls Try.prog 24 #[.slice a n c] w fun e w' => e = .returned (.func (.func 43) #[] #[.pointer (some ⟨w.heap.size, 0, none⟩)]) ∧ w' = w.alloc (.cells #[.slice a n c] 25) := by
  go_enter Try.func24, Try.ntmps24
  go_wp2
  go_ret
  exact ⟨rfl, rfl⟩

set_option maxRecDepth 100000 in
set_option maxHeartbeats 4000000 in
theorem bind_seq (Ow : TypeId → Prop) (hOw : ¬ Ow 87 ∧ ¬ Ow 3 ∧ ¬ Ow 51 ∧ ¬ Ow 27) (ls : List Li) (a : Option Addr) (b off cap Bb : Nat) (Hs : Nat → Prop) (w : World) (hM : LisS w a b off ls) (hB : w.cell? ⟨Bb, 0, none⟩ = some (.slice a ls.length cap)) (hs : (bodyRu a b off cap ls).small) (hr : (bodyRu a b off cap ls).reads Hs) (hBb : Hs Bb) (hHs : ∀ i, Hs i → i < w.heap.size) :
    SeqL Ow Try.prog 43 #[.pointer (some ⟨Bb, 0, none⟩)] encIS Hs (sel (bindC ls) (placesB 0 ls)) w := by
  obtain ⟨xs, hxs⟩ : ∃ xs, xs = placesB 0 ls := ⟨_, rfl⟩
  rw [← hxs]
  intro l J Jx W hW hJ hJx hY h0
  have cB : W.cell? ⟨Bb, 0, none⟩ = some (.slice a ls.length cap) := hW.cell hB
  have hMW := hM.stay hW
  have hHW : ∀ i, Hs i → i < W.heap.size := fun i hi => Nat.lt_of_lt_of_le (hHs i hi) hW.size
  clear hM hB hHs hW
  have hBl : Bb < W.heap.size := hHW _ hBb
  have hst := fun w => standing_any (bodyRu a b off cap ls) w
  dsimp only [Ru.v, bodyRu, At.sl, List.length_nil] at hst
  refine (callsIn_wide (n := 8)).1 (callsIn_of_wp_marks Try.func43 rfl trivial ?_ rfl)
  simp only [Try.ntmps43, List.size_toArray, List.length_cons, List.length_nil, Nat.reduceAdd, Nat.reduceSub, Array.replicate_succ, Array.replicate_zero, List.push_toArray, List.append_toArray, List.nil_append, List.cons_append]
  gi_wp2_with (refine ⟨trivial, ?_⟩; gi_at_call 23; refine CallsIn.mono (callsIn_wide.2 (hst _)) ?_; rintro e w' ⟨rfl, rfl⟩)
  obtain ⟨V, hV⟩ : ∃ V, V = (W.alloc (.cells #[.func (.yield l) #[] #[]] 87)).alloc (.cells #[.string ⟨#[]⟩, .slice none 0 0, .slice a ls.length cap] 27) := ⟨_, rfl⟩
  rw [← hV]
  have sV : V.heap.size = W.heap.size + 2 := by rw [hV]; simp
  have stV : Stay W V := by rw [hV]; exact (Stay.new _ _).alloc _
  have v0 : V.heap[W.heap.size]? = some (.cells #[.func (.yield l) #[] #[]] 87 (0, 0)) := by
    rw [hV]; exact (Below.heap_alloc _ _ _ (by simp)).trans (heap_new _ _)
  have v1 : V.heap[W.heap.size + 1]? = some (.cells #[.string ⟨#[]⟩, .slice none 0 0, .slice a ls.length cap] 27 (0, 0)) := by
    have := heap_new (W.alloc (.cells #[.func (.yield l) #[] #[]] 87)) (.cells #[.string ⟨#[]⟩, .slice none 0 0, .slice a ls.length cap] 27)
    rw [hV]; rwa [World.size_alloc] at this
  have f0 : Fr Ow W.heap.size V W.heap.size := ⟨Nat.le_refl _, by omega, not_tyd v0 hOw.1⟩
  have hJV : J 0 V := hJ _ _ _ h0 (Bel.of_stay stV (Nat.le_refl _))
  have hMV := hMW.stay stV
  have cV := stV.cell cB
  have hHV : ∀ i, (Hs i ∨ Fr Ow W.heap.size V i) → i < V.heap.size := fun i hi => by
    rcases hi with hi | hi
    · have := hHW i hi; omega
    · exact hi.2.1
  have hseq := stand_seq Ow ⟨hOw.1, hOw.2.1, hOw.2.2.1⟩ (bodyRu a b off cap ls) (W.heap.size + 1) (fun i => Hs i ∨ Fr Ow W.heap.size V i) V ⟨TmsS.nil _ _ _ _, hMV⟩ v1 hs (hr.mono fun i h => .inl h) (.inr ⟨by omega, by omega, not_tyd v1 hOw.2.2.2⟩) hHV
  rw [bodyRu_places, ← hxs] at hseq
  have hpl : ∀ k (hk : k < xs.length), ∃ j, ∃ h : j < ls.length, xs[k].1 = ((0 + j : Nat) : Int) ∧ xs[k].2 ∈ varsT ls[j].terms := fun k hk => placesB_mem 0 ls _ (hxs ▸ List.getElem_mem hk)
  have hl2 := hs.2.1
  have hrb := hr.2.1
  dsimp only [bodyRu] at hl2 hrb
  clear hV h0 hMW cB hst hxs
  refine' range_list (α := Int × ByteArray) (by decide) (gf := 42) (lb := #[.pointer (some ⟨W.heap.size + 1, 0, none⟩)]) rfl (enters_of Try.func42 (by kernel_rfl) rfl) hseq hHV (fun _ => rfl)
    (fun k A => J (sel (bindC ls) (xs.take k)).length A ∧ Kep Ow Hs W.heap.size V A) (fun c _ A => c = .ret ∧ (∃ j, j < (sel (bindC ls) xs).length ∧ Jx (j + 1) A) ∧ V.heap.size ≤ A.heap.size) (fun k A A' hA hb => ?hI) (fun c k A A' hA hb => ?hIx) ⟨by simpa [sel, selF] using hJV, Kep.refl _ _ _ _⟩ (fun _ W => W) (fun _ W => Stay.refl W) _ ?assign ?body ?done ?stop
  case hI => exact ⟨hJ _ _ _ hA.1 (hb.mono (by omega)), hA.2.below (fun i hi => hHV i (.inl hi)) (Nat.le_refl _) hb⟩
  case hIx =>
    obtain ⟨h1, ⟨j, hj, h2⟩, h3⟩ := hA
    exact ⟨h1, ⟨j, hj, hJx _ _ _ h2 (hb.mono (by omega))⟩, Nat.le_trans h3 hb.size⟩
  case assign =>
    intro l' y W' K hK
    dsimp only [encIS]
    gi_wp2
    exact hK
  case stop =>
    rintro c k A hk ⟨rfl, ⟨j, hj, hI⟩, hz⟩ hdd
    gi_wp2
    exact leaves_marks ((Marks.nil W.heap.size V.heap.size A).cons (T := V.heap.size + 1) V.heap.size (Nat.le_refl _) (by omega) (by omega) hdd) fun w' hw' => ⟨_, results_none rfl _ _ _, ⟨_, rfl⟩, .inr ⟨j, hj, hJx _ _ _ hI hw'⟩⟩
  case done =>
    rintro A ⟨hJA, -⟩ hdd
    rw [List.take_of_length_le (Nat.le_refl _)] at hJA
    have HJ : Hid (J (sel (bindC ls) xs).length A) := hJA
    clear hJA hY hseq
    gi_wp2
    exact leaves_marks ((Marks.nil W.heap.size V.heap.size A).cons (T := V.heap.size + 1) V.heap.size (Nat.le_refl _) (by omega) (by omega) hdd) fun w' hw' => ⟨_, results_none rfl _ _ _, ⟨_, rfl⟩, .inl (hJ _ _ _ HJ.out hw')⟩
  case body =>
    intro l' k hk W' X hX ho hWs hl' hXs
    obtain ⟨hJX, hKX⟩ := hX
    obtain ⟨j, hj, hpj, -⟩ := hpl k hk
    rw [Nat.zero_add] at hpj
    have cY : X.cell? ⟨W.heap.size, 0, none⟩ = some (.func (.yield l) #[] #[]) := by
      have := (hKX.get (.inr f0)).trans v0
      simp [World.cell?, this]
    have cX := hKX.cell (p := ⟨Bb, 0, none⟩) (.inl hBb) cV
    obtain rfl := hMV.1 (by omega)
    have cK := hKX.cell (.inl (hrb (by omega))) (hMV.2 j hj).1
    have hji : (j : Int) < (ls.length : Int) := by omega
    have hst := sel_take (bindC ls) hk
    have hcc := bindC_at (pre := xs.take k) hj hpj
    have HX : Hid (J (sel (bindC ls) (xs.take k)).length X ∧ Kep Ow Hs W.heap.size V X) := ⟨hJX, hKX⟩
    clear hJX hKX ho hseq hJV v1 hMV cV hpl
    cases hc : bindC ls (xs.take k) xs[k]
    · rw [hc] at hst hcc
      have HS : Hid (sel (bindC ls) (xs.take (k + 1)) = sel (bindC ls) (xs.take k)) := by show _ = _; simpa using hst
      generalize xs[k] = p at *
      obtain ⟨pi, ps⟩ := p
      dsimp only at hpj
      subst hpj
      have hcc' := hcc.symm
      generalize ls[j].kind = kd at *
      clear hst hc hY hcc
      dsimp only [encIS] at *
      gi_wp2
      refine ⟨fun _ h => (by cases h), ?_⟩
      gi_wp2
      obtain ⟨hJX, hKX⟩ := HX.out
      exact ⟨Holds.refl _ _, Nat.le_refl _, by rw [HS.out]; exact hJX, hKX⟩
    · obtain ⟨hkk, hat⟩ := sel_at (bindC ls) hk hc
      rw [hc] at hst hcc
      have HS : Hid ((sel (bindC ls) (xs.take (k + 1))).length = (sel (bindC ls) (xs.take k)).length + 1) := by show _ = _; rw [hst]; simp
      obtain ⟨fn, tmps, assign, body, hy, hR⟩ := yield_any (l' := l') (m' := 8 - 1 - 1 - 1) (hY _ hkk X HX.out.1 (by omega))
      rw [hat] at hy
      generalize xs[k] = p at *
      obtain ⟨pi, ps⟩ := p
      dsimp only at hpj
      subst hpj
      have hcc' := hcc.symm
      generalize ls[j].kind = kd at *
      clear hst hc hY hcc hat
      dsimp only [encIS] at *
      gi_wp2
      refine hR.mono ?_
      rintro e9 W3 ⟨hh, hz, (⟨rfl, hJ3⟩ | ⟨rfl, hJx3⟩)⟩
      · have HH : Hid (Kep Ow Hs W.heap.size X W3 ∧ J ((sel (bindC ls) (xs.take k)).length + 1) W3) := ⟨⟨hh, hz⟩, hJ3⟩
        clear hR hh hz hJ3
        gi_wp2
        exact ⟨HX.out.2.join (by omega) HH.out.1.1, HH.out.1.2, by rw [HS.out]; exact HH.out.2, HX.out.2.trans HH.out.1⟩
      · have HH : Hid (Kep Ow Hs W.heap.size X W3 ∧ Jx ((sel (bindC ls) (xs.take k)).length + 1) W3) := ⟨⟨hh, hz⟩, hJx3⟩
        clear hR hh hz hJx3
        gi_wp2
        exact ⟨HX.out.2.join (by omega) HH.out.1.1, HH.out.1.2, rfl, ⟨_, hkk, HH.out.2⟩, by have := HH.out.1.2; omega⟩
end Go.Proofs.Ytpnjmldbohecdaa
