/- A map of lists of numbers, beside a list of its own. -/
import Derived.Test.YtpnjmldbohecdaaQJ
import Derived.Maps.GroupsBeside
import Derived.Test.YtpnjmldbohecdaaED
namespace Go.Proofs.Ytpnjmldbohecdaa
open Go.RowKit Go.Maps Go.Shelf Go.ChangeShapes

def keyI (z : Int) : Lit := .int .i64 z
theorem lawI : Keyed Try.prog 3 := int_keyed Try.underlying3
theorem keyI_of {z : Int} (h : (Lit.int .i64 z).wf = true) : keyOf Try.prog 3 (.int .i64 z) = some (keyI z) := keyOf_int_mk Try.underlying3 h
theorem zeroIs (w : World) : (zeroValue 32).run Try.prog w = .ok (.slice none 0 0) w := by kernel_rfl
theorem run_mapG (W : World) : (Instr.makeMap 90 none).run Try.prog W = .ok (.map (some W.heap.size)) (W.alloc (.map #[] 0)) := by kernel_rfl

/-- At bm lies a map of lists: at each number k the list wt k; no list lies where No names. -/
def GrpM (w : World) (bm base n : Nat) (wt : Int → List Int) (No : Nat → Prop) : Prop :=
  ∃ D : DataW Unit, w.ownsGroups Try.prog 3 base 3 .i64 bm n D ∧ (∀ k, (D.atKey (keyI k) .nil = .nil ∧ wt k = []) ∨ D.atKey (keyI k) .nil = .slice (lits .i64 (wt k)) []) ∧ w.Shuns bm No
theorem grpM_new (w : World) (No : Nat → Prop) : GrpM (w.alloc (.map #[] 0)) w.heap.size (w.heap.size + 1) 0 (fun _ => []) No :=
  ⟨_, World.ownsGroups_made w _ _ _ _, fun k => .inl ⟨by simp [DataW.atKey], rfl⟩, World.Shuns_made w No⟩
theorem GrpM.map {w : World} {bm base n : Nat} {wt : Int → List Int} {No : Nat → Prop} (h : GrpM w bm base n wt No) : ∃ es clock, w.heap[bm]? = some (.map es clock) := by
  obtain ⟨D, ⟨es, clock, h1, _⟩, _⟩ := h
  exact ⟨es, clock, h1⟩
theorem GrpM.lt {w : World} {bm base n : Nat} {wt : Int → List Int} {No : Nat → Prop} (h : GrpM w bm base n wt No) : bm < w.heap.size := by
  obtain ⟨es, clock, h1⟩ := h.map
  exact (Array.getElem?_eq_some_iff.1 h1).1
theorem stay_grown {w w' : World} (h : Stay w w') : w.grownBy w' none := ⟨h.os, h.tape, h.output, h.size, fun k hk _ => h.block k hk⟩
theorem GrpM.stay {w w' : World} {bm base n : Nat} {wt : Int → List Int} {No : Nat → Prop} (h : GrpM w bm base n wt No) (hs : Stay w w') : GrpM w' bm base n wt No := by
  have hlt := h.lt
  obtain ⟨D, h1, h2, h3⟩ := h
  exact ⟨D, h1.kept (stay_grown hs) (by simp) (h1.rowsAbove fun j hj => by cases hj), h2, h3.kept (stay_grown hs) hlt (by simp)⟩
/-- What is written to a row that the lists shun. -/
theorem GrpM.beside {w w' : World} {bm base n : Nat} {wt : Int → List Int} {No No' : Nat → Prop} (h : GrpM w bm base n wt No) {row : Option Nat} (hg : w.grownBy w' row) (hb : some bm ≠ row) (hr : ∀ j, row = some j → No j) (hn : ∀ g, No' g → No g ∨ w.heap.size ≤ g) : GrpM w' bm base n wt No' := by
  have hlt := h.lt
  obtain ⟨D, h1, h2, h3⟩ := h
  exact ⟨D, h1.kept hg hb (h3.rowsOff hr), h2, (h3.reno h1 hn).kept hg hlt hb⟩
theorem lits_inj {a b : List Int} (h : lits (H := Unit) .i64 a = lits .i64 b) : a = b := by
  unfold lits at h
  exact (List.map_inj_right (fun a b hab => by simpa using hab)).1 h
/-- The list at a number: its value, what it owns, and the way back. -/
theorem GrpM.look {w : World} {bm base n : Nat} {wt : Int → List Int} {No : Nat → Prop} (h : GrpM w bm base n wt No) {k : Int} (hk : (Lit.int .i64 k).wf = true) (hn : n < maxLen) :
    ∃ v, (Instr.lookup 90 (.map (some bm)) (.int .i64 k) false).run Try.prog w = .ok v w ∧ w.ownsInts base 3 .i64 v (wt k) ∧ (wt k).length ≤ n ∧ (∀ g, v.ownBlock = some g → ¬ No g) ∧
      ∀ (w1 : World) (v' : Value) (zs' : List Int), w.grownBy w1 v.ownBlock → w1.ownsInts base 3 .i64 v' zs' → zs' ≠ [] → zs'.length ≤ n + 1 → (v'.ownBlock = v.ownBlock ∨ ∃ g, v'.ownBlock = some g ∧ w.heap.size ≤ g) → (∀ g, v'.ownBlock = some g → ¬ No g) →
        ∃ w2, (Instr.mapUpdate 90 (.map (some bm)) (.int .i64 k) v').run Try.prog w1 = .ok () w2 ∧ GrpM w2 bm base (n + 1) (fun j => if j = k then zs' else wt j) No ∧ w1.grownBy w2 (some bm) := by
  obtain ⟨D, h1, h2, h3⟩ := h
  have hkey := keyI_of hk
  obtain ⟨v, zs, hrun, hat, hoi, hzl, hback⟩ := h1.at lawI Try.underlying90 (zeroIs _) hn hkey
  have hzs : zs = wt k := by
    rcases hoi.datum (H := Unit) with ⟨hd, hz⟩ | hd
    · rw [hd] at hat
      rcases h2 k with ⟨_, h4⟩ | h4
      · rw [hz, h4]
      · rw [hat] at h4; cases h4
    · rw [hd] at hat
      rcases h2 k with ⟨h4, _⟩ | h4
      · rw [hat] at h4; cases h4
      · rw [hat] at h4
        simp only [DataW.slice.injEq, and_true] at h4
        exact lits_inj h4
  subst hzs
  have hsh : ∀ g, v.ownBlock = some g → ¬ No g := by
    obtain ⟨es, clock, hb, F, _⟩ := h1
    rcases Maps.fit_look false lawI Try.underlying90 (zeroIs _) hb F hkey with ⟨hrun', _, _⟩ | ⟨e0, y, hm0, _, hrun', _, _, _⟩
    · rw [hrun] at hrun'
      obtain rfl : v = .slice none 0 0 := by simpa using hrun'
      intro g hg'
      cases hg'
    · rw [hrun] at hrun'
      obtain rfl : v = e0.val := by simpa using hrun'
      exact fun g hg' => h3 es clock hb e0 hm0 g hg'
  refine ⟨v, hrun, hoi, hzl, hsh, fun w1 v' zs' hgr hown' hne hl' hloc hno => ?_⟩
  obtain ⟨w2, hrun2, r1, r2⟩ := hback w1 v' zs' hgr hown' hl' hloc
  refine ⟨w2, hrun2, ⟨_, r1, fun j => ?_, ?_⟩, r2⟩
  · have hm : IsMap D := by obtain ⟨es, clock, _, _, _, hD, _⟩ := h1; exact ⟨_, hD⟩
    by_cases hj : j = k
    · subst hj
      dsimp only
      rw [if_pos rfl, atKey_put_same hm (by simp [keyI, WideAt.IsKeyLit])]
      exact .inr (hown'.datum_pos hne)
    · dsimp only
      rw [if_neg hj, atKey_put_other (fun h => hj (by simpa [keyI] using h))]
      exact h2 j
  · obtain ⟨es, clock, hb, F, hs, _, hbb, _⟩ := h1
    have hblt : bm < w.heap.size := (Array.getElem?_eq_some_iff.1 hb).1
    have hb1 : w1.heap[bm]? = some (.map es clock) := (hgr.block bm hblt (fun e1 => by have := (hoi.1.lt bm e1.symm).1; omega)).trans hb
    obtain ⟨es', clock', hb2, hwho⟩ := stored_who lawI Try.underlying90 hb1 F (Nat.lt_of_le_of_lt hs hn) hkey hrun2
    intro es2 clock2 hb2' y hy g hyg
    obtain ⟨rfl, rfl⟩ : es' = es2 ∧ clock' = clock2 := by rw [hb2] at hb2'; simpa using hb2'
    rcases hwho y hy with ⟨hy0, _⟩ | ⟨_, hval⟩
    · exact h3 es clock hb y hy0 g hyg
    · exact hno g (hval ▸ hyg)
/-- The types of lists of numbers. -/
def OwI (t : TypeId) : Prop := t = 3
theorem ints_held {w w' : World} {base : Nat} {v : Value} {zs : List Int} (h : w.ownsInts base 3 .i64 v zs) (hb : ∀ k, v.ownBlock = some k → w'.heap[k]? = w.heap[k]?) : w'.ownsInts base 3 .i64 v zs := by
  refine ⟨⟨h.1.1, ?_⟩, h.2⟩
  rcases h.1.2 with hx | ⟨b, c, cur, hv, hbb, hh, rest⟩
  · exact .inl hx
  · exact .inr ⟨b, c, cur, hv, hbb, (hb b (by rw [hv]; rfl)).trans hh, rest⟩
theorem ints_tyd {w : World} {base : Nat} {v : Value} {zs : List Int} (h : w.ownsInts base 3 .i64 v zs) {k : Nat} (hk : v.ownBlock = some k) : Tyd OwI w k := by
  rcases h.1.2 with ⟨hx, -⟩ | ⟨b, c, cur, hv, hbb, hh, rest⟩
  · rw [hx] at hk; cases hk
  · rw [hv] at hk
    obtain rfl : b = k := Option.some.inj hk
    exact ⟨_, _, _, hh, rfl⟩
theorem GrpM.hold {w w' : World} {bm base n B : Nat} {wt : Int → List Int} {No : Nat → Prop} (h : GrpM w bm base n wt No) (hb : Bel OwI B w w') (hB : bm < B) : GrpM w' bm base n wt No := by
  obtain ⟨D, ⟨es, clock, h1, F, hs, hD, hbb, hlen, hap⟩, h2, h3⟩ := h
  have hbe := (hb.block bm hB).trans h1
  have hst : ∀ x ∈ es.toList, ∀ z, rowElem (H := Unit) w base 3 .i64 x.val = some z → rowElem w' base 3 .i64 x.val = some z := fun x hx z hz => by
    obtain ⟨zs, ho, rfl⟩ := rowElem_inv hz
    exact rowElem_mk (ints_held ho fun k hk => hb.2 k (ints_tyd ho hk))
  obtain ⟨F1, hmap, _⟩ := F.stay hst
  refine ⟨D, ⟨es, clock, hbe, F1, hs, by rw [hD, hmap], hbb, fun x hx zs ho => ?_, hap⟩, h2, fun es' clock' hb' => h3 es' clock' (by rw [h1, ← hbe]; exact hb')⟩
  obtain ⟨y, hy⟩ := F.reads x hx
  obtain ⟨z, hz, _⟩ := WideElems.rd_val hy
  obtain ⟨zs0, ho0, _⟩ := rowElem_inv hz
  rw [ho.unique (ints_held ho0 fun k hk => hb.2 k (ints_tyd ho0 hk))]
  exact hlen x hx zs0 ho0
/-- A list of numbers of its own that grows by others. -/
def encI (z : Int) : List Value := [.int .i64 z]
theorem encIOk : EncOk 1 encI := ⟨fun _ => rfl, fun _ u hu => by simp [encI] at hu; subst hu; rfl, by decide⟩
theorem infoI : (Try.prog.info? 3).map (fun i => (i.zero, i.size, i.bytes)) = some (some (.int .i64 0), 1, 8) := by kernel_rfl
theorem cells_ints (zs : List Int) : cellsR encI zs = zs.map (Value.int .i64) := by
  unfold cellsR
  induction zs with
  | nil => rfl
  | cons z zs ih => rw [List.flatMap_cons, ih]; rfl
theorem ints_own {w : World} {base : Nat} {v : Value} {zs : List Int} : w.ownsInts base 3 .i64 v zs ↔ OwnR 3 1 encI base w v zs ∧ ∀ z ∈ zs, (Lit.int .i64 z).wf = true := by
  unfold World.ownsInts OwnR
  rw [cells_ints]
end Go.Proofs.Ytpnjmldbohecdaa
