/- The way of a body's literals: what take does, plainly; what lies in memory meanwhile. No walk here. -/
import Derived.Test.YtpnjmldbohecdaaER
import Derived.Test.YtpnjmldbohecdaaES
namespace Go.Proofs.Ytpnjmldbohecdaa
open Go.RowKit Go.Maps Go.Shelf Go.ChangeShapes

/-- Does a literal wait for one behind it. -/
def waitsS (bs : List (Int × ByteArray)) (i : Int) (ss : List ByteArray) : Bool := ss.any fun s => decide (i < firstAt bs s)
def waits (bs : List (Int × ByteArray)) (i : Int) (l : Li) : Bool := waitsS bs i (varsT l.terms)
theorem waitsS_take {bs : List (Int × ByteArray)} {i : Int} {ss : List ByteArray} {k : Nat} (h : k < ss.length) : waitsS bs i (ss.take (k + 1)) = (waitsS bs i (ss.take k) || decide (i < firstAt bs ss[k])) := by
  unfold waitsS
  rw [List.take_add_one, List.getElem?_eq_getElem h, Option.toList_some, List.any_append]
  simp
theorem waitsS_yes {bs : List (Int × ByteArray)} {i : Int} {ss : List ByteArray} {k : Nat} (h : k < ss.length) (hf : i < firstAt bs ss[k]) : waitsS bs i ss = true := List.any_eq_true.2 ⟨_, List.getElem_mem h, by simpa using hf⟩
def takeS (bs : List (Int × ByteArray)) (i : Int) (l : Li) (s : List Int × (Int → List Int)) : List Int × (Int → List Int) :=
  if ofThree l = true then
    if waits bs i l = true then (s.1, fun j => if j = lastS bs (varsT l.terms) then s.2 (lastS bs (varsT l.terms)) ++ [i] else s.2 j)
    else (s.1 ++ [i] ++ s.2 i, s.2)
  else s
def takeN (bs : List (Int × ByteArray)) (ls : List Li) : Nat → List Int × (Int → List Int)
  | 0 => ([], fun _ => [])
  | k + 1 => match ls[k]? with
    | some l => takeS bs (k : Int) l (takeN bs ls k)
    | none => takeN bs ls k
theorem takeN_succ {bs : List (Int × ByteArray)} {ls : List Li} {k : Nat} (h : k < ls.length) : takeN bs ls (k + 1) = takeS bs (k : Int) ls[k] (takeN bs ls k) := by
  rw [takeN, List.getElem?_eq_getElem h]
theorem firstAt_range {bs : List (Int × ByteArray)} (h : ∀ p ∈ bs, 0 ≤ p.1 ∧ p.1 < 1048576) (s : ByteArray) : 0 ≤ firstAt bs s ∧ firstAt bs s < 1048576 := by
  induction bs with
  | nil => simp [firstAt]
  | cons p ps ih =>
    unfold firstAt
    split
    · exact h p List.mem_cons_self
    · exact ih fun q hq => h q (List.mem_cons_of_mem _ hq)
theorem lastS_range {bs : List (Int × ByteArray)} (h : ∀ p ∈ bs, 0 ≤ p.1 ∧ p.1 < 1048576) (ss : List ByteArray) : 0 ≤ lastS bs ss ∧ lastS bs ss < 1048576 := by
  unfold lastS
  have : ∀ (m : Int), 0 ≤ m ∧ m < 1048576 → 0 ≤ ss.foldl (fun m s => max m (firstAt bs s)) m ∧ ss.foldl (fun m s => max m (firstAt bs s)) m < 1048576 := by
    induction ss with
    | nil => exact fun m h => h
    | cons s ss ih =>
      intro m hm
      have := firstAt_range h s
      exact ih _ (by show 0 ≤ max m (firstAt bs s) ∧ max m (firstAt bs s) < 1048576; omega)
  exact this 0 (by omega)

theorem own_push_g {α : Type} {n : Nat} {enc : α → List Value} (he : EncOk n enc) {P : Program} {s t : TypeId} (hu : P.underlying s = some (.slice t)) {z : Value} {bytes : Nat} (hinfo : (P.info? t).map (fun i => (i.zero, i.size, i.bytes)) = some (some z, n, bytes)) (hz : z.cells.size = n)
    {W : World} {v : Value} {xs : List α} {base : Nat} (hown : OwnR t n enc base W v xs) (m : α) (hm : xs.length + 1 ≤ maxLen) (hb : (xs.length + 1) * bytes ≤ 140737488355328) (hbase : base ≤ W.heap.size) (ty : TypeId) :
    ∃ a1 c1 w2, (Builtin.append_ #[s, s] ty #[v, .slice (some ⟨W.heap.size, 0, none⟩) 1 1]).run P (W.alloc (.cells (enc m).toArray t)) = .ok (.slice a1 (xs.length + 1) c1) w2 ∧ OwnR t n enc base w2 (.slice a1 (xs.length + 1) c1) (xs ++ [m]) ∧ (W.alloc (.cells (enc m).toArray t)).grownBy w2 v.ownBlock ∧
      ((Value.slice a1 (xs.length + 1) c1).ownBlock = v.ownBlock ∨ (Value.slice a1 (xs.length + 1) c1).ownBlock = some (W.heap.size + 1)) := by
  have hlit := recs_lit he W [m] t
  rw [show cellsR enc [m] = enc m by simp [cellsR]] at hlit
  obtain ⟨v', w2, hr, ho, hg, _, hat⟩ := append_recs (P := P) (ty := ty) he hu hinfo hz (hown.alloc (.cells (enc m).toArray t)) hlit (c := 1) (fun h => nomatch h) (by simpa using hm) (by simpa using hb) (by rw [World.size_alloc]; omega)
  obtain ⟨a1, b1, k1, rfl, -⟩ := ho.form he
  rw [List.length_append, List.length_singleton] at hr ho hat
  rw [World.size_alloc] at hat
  exact ⟨a1, k1, w2, hr, ho, hg, hat⟩
/-- Between two rounds. -/
structure TkI (w : World) (bm : Nat) (way : List Int) (wt : Int → List Int) (n : Nat) (v : Value) (A : World) : Prop where
  boxb : A.heap[w.heap.size]? = some (.cells #[.map (some bm)] 66 (0, 0))
  boxw : A.heap[w.heap.size + 1 + 1]? = some (.cells #[.map (some (w.heap.size + 1))] 90 (0, 0))
  grp : GrpM A (w.heap.size + 1) (w.heap.size + 1 + 1) n wt (fun g => v.ownBlock = some g)
  own : OwnR 3 1 encI (w.heap.size + 3) A v way
  wf : ∀ z ∈ way, (Lit.int .i64 z).wf = true
  bel : Below w.heap.size w A
section
variable {w A A' : World} {bm n : Nat} {way : List Int} {wt : Int → List Int} {v : Value}
theorem TkI.size (h : TkI w bm way wt n v A) : w.heap.size + 3 ≤ A.heap.size := (Array.getElem?_eq_some_iff.1 h.boxw).1
theorem TkI.stay (h : TkI w bm way wt n v A) (hs : Stay A A') : TkI w bm way wt n v A' :=
  have hz := h.size
  ⟨(hs.block _ (by omega)).trans h.boxb, (hs.block _ (by omega)).trans h.boxw, h.grp.stay hs, h.own.stay hs, h.wf, h.bel.trans (Below.mono hs (by omega))⟩
theorem TkI.hold {B : Nat} (h : TkI w bm way wt n v A) (hb : Bel OwI B A A') (hB : w.heap.size + 3 ≤ B) : TkI w bm way wt n v A' :=
  ⟨(hb.block _ (by omega)).trans h.boxb, (hb.block _ (by omega)).trans h.boxw, h.grp.hold hb (by omega), h.own.held fun k hk => hb.2 k (ints_tyd (ints_own.2 ⟨h.own, h.wf⟩) hk), h.wf, h.bel.trans (Below.mono hb.1 (by omega))⟩
theorem TkI.cb (h : TkI w bm way wt n v A) : A.cell? ⟨w.heap.size, 0, none⟩ = some (.map (some bm)) := by
  have := h.boxb
  simp [World.cell?, this]
theorem TkI.cw (h : TkI w bm way wt n v A) : A.cell? ⟨w.heap.size + 1 + 1, 0, none⟩ = some (.map (some (w.heap.size + 1))) := by
  have := h.boxw
  simp [World.cell?, this]
/-- A number is put behind the list that waits for k. -/
theorem TkI.put (h : TkI w bm way wt n v A) (k i : Int) (hk : (Lit.int .i64 k).wf = true) (hi : (Lit.int .i64 i).wf = true) (hn : n < 1048576) (ty : TypeId) :
    ∃ u, (Instr.lookup 90 (.map (some (w.heap.size + 1))) (.int .i64 k) false).run Try.prog A = .ok u A ∧
      ∀ (C : World) (q : Nat), Stay A C → C.cell? ⟨q, 0, none⟩ = some (.int .i64 i) → ∃ a1 n1 c1 W2 W3,
        (Builtin.append_ #[32, 32] ty #[u, .slice (some ⟨q, 0, none⟩) 1 1]).run Try.prog C = .ok (.slice a1 n1 c1) W2 ∧ W2.cell? ⟨w.heap.size + 1 + 1, 0, none⟩ = some (.map (some (w.heap.size + 1))) ∧
        (Instr.mapUpdate 90 (.map (some (w.heap.size + 1))) (.int .i64 k) (.slice a1 n1 c1)).run Try.prog W2 = .ok () W3 ∧
        TkI w bm way (fun j => if j = k then wt k ++ [i] else wt j) (n + 1) v W3 ∧ A.heap.size ≤ W3.heap.size ∧ ∀ j, j ≠ w.heap.size + 1 → j < A.heap.size → ¬ Tyd OwI A j → W3.heap[j]? = A.heap[j]? := by
  have hz := h.size
  obtain ⟨u, hlk, hoi, hln, hno, hback⟩ := h.grp.look hk (by unfold maxLen; omega)
  refine ⟨u, hlk, fun C q hC hq => ?_⟩
  have hzC := hC.size
  obtain ⟨hoR, hwf⟩ := ints_own.1 hoi
  have hul : ∀ g, u.ownBlock = some g → w.heap.size + 1 + 1 ≤ g ∧ g < A.heap.size := hoR.lt
  have hlit : RecS 1 encI C (some ⟨q, 0, none⟩) q 0 [i] := ⟨fun _ => rfl, fun j hj i' v' hv => by
    obtain rfl : j = 0 := by simpa using hj
    match i', hv with
    | 0, hv => simp [encI] at hv; subst hv; simpa using hq⟩
  obtain ⟨v', W2, hr, ho, hg, _, hat⟩ := append_recs (P := Try.prog) (ty := ty) encIOk Try.underlying32 infoI rfl (hoR.stay hC) hlit (c := 1) (fun h => nomatch h) (by simp [maxLen]; omega) (by simp; omega) (by omega)
  obtain ⟨a1, b1, c1, rfl, -⟩ := ho.form encIOk
  have hoi2 : W2.ownsInts (w.heap.size + 1 + 1) 3 .i64 (.slice a1 (wt k ++ [i]).length c1) (wt k ++ [i]) := ints_own.2 ⟨ho, fun z hz => by
    rcases List.mem_append.1 hz with hz | hz
    · exact hwf z hz
    · rw [List.mem_singleton] at hz; subst hz; exact hi⟩
  have hgA : A.grownBy W2 u.ownBlock := ⟨hg.os.trans hC.os, hg.tape.trans hC.tape, hg.output.trans hC.output, Nat.le_trans hzC hg.size, fun j hj hne => (hg.block j (by omega) hne).trans (hC.block j hj)⟩
  have hloc : (Value.slice a1 (wt k ++ [i]).length c1).ownBlock = u.ownBlock ∨ ∃ g, (Value.slice a1 (wt k ++ [i]).length c1).ownBlock = some g ∧ A.heap.size ≤ g := hat.imp id fun e => ⟨_, e, hzC⟩
  have hvl : ∀ g, v.ownBlock = some g → w.heap.size + 3 ≤ g ∧ g < A.heap.size := h.own.lt
  obtain ⟨W3, hup, hG3, hg3⟩ := hback W2 _ (wt k ++ [i]) hgA hoi2 (by simp) (by simp; omega) hloc (fun g hg hv => by
    rcases hat with e | e
    · exact hno g (e ▸ hg) hv
    · rw [e] at hg
      have h1 := Option.some.inj hg
      have h2 := (hvl g hv).2
      omega)
  have hsame : ∀ j, j < A.heap.size → u.ownBlock ≠ some j → j ≠ w.heap.size + 1 → W3.heap[j]? = A.heap[j]? := fun j hj h1 h2 => (hg3.block j (by have := hgA.size; omega) (by simpa using h2)).trans (hgA.block j hj (fun e => h1 e.symm))
  have hb2 : W2.heap[w.heap.size + 1 + 1]? = A.heap[w.heap.size + 1 + 1]? := hgA.block _ (by omega) (fun e => by
    obtain ⟨cs, t, f, hh, ht⟩ := ints_tyd hoi e.symm
    rw [h.boxw] at hh
    cases hh
    exact absurd ht (by unfold OwI; decide))
  refine ⟨a1, _, c1, W2, W3, hr, ?_, hup, ⟨?_, ?_, hG3, ?_, h.wf, ?_⟩, by have := hgA.size; have := hg3.size; omega, fun j h1 h2 h3 => hsame j h2 (fun e => h3 (ints_tyd hoi e)) h1⟩
  · have := hb2.trans h.boxw
    simp [World.cell?, this]
  · exact (hsame _ (by omega) (fun e => by have := (hul _ e).1; omega) (by omega)).trans h.boxb
  · exact (hg3.block _ (by have := hgA.size; omega) (by simp)).trans (hb2.trans h.boxw)
  · exact h.own.held fun g hg => hsame g (hvl g hg).2 (fun e => hno g e hg) (by have := (hvl g hg).1; omega)
  · refine ⟨hg3.os.trans (hgA.os.trans h.bel.os), hg3.tape.trans (hgA.tape.trans h.bel.tape), hg3.output.trans (hgA.output.trans h.bel.output), by have := h.bel.size; have := hgA.size; have := hg3.size; omega, fun j hj => (hsame j (by omega) (fun e => by have := (hul _ e).1; omega) (by omega)).trans (h.bel.block j hj)⟩
/-- A number, and behind it the list that waited for it, are put behind the way. -/
def AddQ (w : World) (bm : Nat) (way : List Int) (wt : Int → List Int) (n : Nat) (v : Value) (A : World) (v1 : Value) (A2 : World) (ty : TypeId) (i : Int) (W' : World) : Prop :=
  ∃ u, (Instr.lookup 90 (.map (some (w.heap.size + 1))) (.int .i64 i) false).run Try.prog W' = .ok u W' ∧ ∃ a2 n2 c2 A3,
    (Builtin.append_ #[32, 32] ty #[v1, u]).run Try.prog A2 = .ok (.slice a2 n2 c2) A3 ∧ TkI w bm (way ++ [i] ++ wt i) wt n (.slice a2 n2 c2) A3 ∧ A.heap.size ≤ A3.heap.size ∧ ∀ j, j < A.heap.size → v.ownBlock ≠ some j → A3.heap[j]? = A.heap[j]?
theorem TkI.add (h : TkI w bm way wt n v A) (i : Int) (hi : (Lit.int .i64 i).wf = true) (hn : n < 1048576) (hl : way.length ≤ 1099512676352) (ty : TypeId) :
    ∃ a1 n1 c1 A2, (Builtin.append_ #[32, 32] ty #[v, .slice (some ⟨A.heap.size, 0, none⟩) 1 1]).run Try.prog (A.alloc (.cells #[.int .i64 i] 3)) = .ok (.slice a1 n1 c1) A2 ∧ (∀ j, j < A.heap.size → v.ownBlock ≠ some j → A2.heap[j]? = A.heap[j]?) ∧
      AddQ w bm way wt n v A (.slice a1 n1 c1) A2 ty i A ∧ AddQ w bm way wt n v A (.slice a1 n1 c1) A2 ty i (A.alloc (.cells #[.int .i64 i] 3)) ∧ AddQ w bm way wt n v A (.slice a1 n1 c1) A2 ty i A2 := by
  have hz := h.size
  obtain ⟨a1, c1, A2, hr1, ho1, hgl, hq1⟩ := own_push_g encIOk Try.underlying32 infoI rfl h.own i (by unfold maxLen; omega) (by omega) (by omega) ty
  have hzl := hgl.size
  rw [World.size_alloc] at hzl
  have hk1 : ∀ k, k < A.heap.size → v.ownBlock ≠ some k → A2.heap[k]? = A.heap[k]? := fun k hk hn => (hgl.block k (by rw [World.size_alloc]; omega) (fun e => hn e.symm)).trans (Below.heap_alloc _ _ _ hk)
  have hb1 : Below (w.heap.size + 3) A A2 := ⟨hgl.os, hgl.tape, hgl.output, by omega, fun k hk => hk1 k (by omega) (fun e => by have := (h.own.lt k e).1; omega)⟩
  have hvl : ∀ g, v.ownBlock = some g → w.heap.size + 3 ≤ g ∧ g < A.heap.size := h.own.lt
  have hgA : A.grownBy A2 v.ownBlock := ⟨hb1.os, hb1.tape, hb1.output, hb1.size, fun k hk hne => hk1 k hk (fun e => hne e.symm)⟩
  have hG2 : GrpM A2 (w.heap.size + 1) (w.heap.size + 1 + 1) n wt (fun g => (Value.slice a1 (way.length + 1) c1).ownBlock = some g) := h.grp.beside hgA (fun e => by have := (hvl _ e.symm).1; omega) (fun j hj => hj) (fun g hg => by
    rcases hq1 with e | e
    · exact .inl (e ▸ hg)
    · rw [e] at hg; have := Option.some.inj hg; exact .inr (by omega))
  have hG2' : GrpM A2 (w.heap.size + 1) (w.heap.size + 1 + 1) n wt (fun g => v.ownBlock = some g ∨ (Value.slice a1 (way.length + 1) c1).ownBlock = some g) := h.grp.beside hgA (fun e => by have := (hvl _ e.symm).1; omega) (fun j hj => hj) (fun g hg => by
    rcases hg with hg | hg
    · exact .inl hg
    · rcases hq1 with e | e
      · exact .inl (e ▸ hg)
      · rw [e] at hg; have := Option.some.inj hg; exact .inr (by omega))
  have key : ∀ W', GrpM W' (w.heap.size + 1) (w.heap.size + 1 + 1) n wt (fun g => v.ownBlock = some g ∨ (Value.slice a1 (way.length + 1) c1).ownBlock = some g) → W'.heap.size ≤ A2.heap.size → (∀ g, g < W'.heap.size → v.ownBlock ≠ some g → (Value.slice a1 (way.length + 1) c1).ownBlock ≠ some g → A2.heap[g]? = W'.heap[g]?) → AddQ w bm way wt n v A (.slice a1 (way.length + 1) c1) A2 ty i W' := fun W' hG' hzW hsm => by
    obtain ⟨u, hlk, hoi, hln, hno, -⟩ := hG'.look hi (by unfold maxLen; omega)
    have hoi2 : A2.ownsInts (w.heap.size + 1 + 1) 3 .i64 u (wt i) := ints_held hoi fun g hg => hsm g ((ints_own.1 hoi).1.lt g hg).2 (fun e => hno g hg (.inl e)) (fun e => hno g hg (.inr e))
    obtain ⟨hoR, hwf⟩ := ints_own.1 hoi2
    obtain ⟨ua, ub, uc, rfl, huR, hun, -⟩ := hoR.form encIOk
    obtain ⟨v2, A3, hr, ho, hg, _, hat⟩ := append_recs (P := Try.prog) (ty := ty) encIOk Try.underlying32 infoI rfl ho1 huR (c := uc) hun (by simp [maxLen]; omega) (by simp; omega) (by omega)
    obtain ⟨a2, b2, c2, rfl, -⟩ := ho.form encIOk
    have hv1l := ho1.lt
    have hG3 := hG2.beside (No' := fun g => (Value.slice a2 (way ++ [i] ++ wt i).length c2).ownBlock = some g) hg (fun e => by have := (hv1l _ e.symm).1; omega) (fun j hj => hj) (fun g hg => by
      rcases hat with e | e
      · exact .inl (e ▸ hg)
      · rw [e] at hg; have := Option.some.inj hg; exact .inr (by omega))
    have hsame : ∀ j, j < A.heap.size → v.ownBlock ≠ some j → A3.heap[j]? = A.heap[j]? := fun j hj hne => by
      refine (hg.block j (by omega) (fun e => ?_)).trans (hk1 j hj hne)
      rcases hq1 with e1 | e1
      · exact hne (e1 ▸ e.symm)
      · rw [e1] at e; have := Option.some.inj e; omega
    refine ⟨_, hlk, a2, _, c2, A3, hr, ⟨?_, ?_, hG3, ho, fun z hz => ?_, ?_⟩, by have := hg.size; omega, hsame⟩
    · exact (hsame _ (by omega) (fun e => by have := (hvl _ e).1; omega)).trans h.boxb
    · exact (hsame _ (by omega) (fun e => by have := (hvl _ e).1; omega)).trans h.boxw
    · rcases List.mem_append.1 hz with hz | hz
      · rcases List.mem_append.1 hz with hz | hz
        · exact h.wf z hz
        · rw [List.mem_singleton] at hz; subst hz; exact hi
      · exact hwf z hz
    · refine ⟨hg.os.trans (hb1.os.trans h.bel.os), hg.tape.trans (hb1.tape.trans h.bel.tape), hg.output.trans (hb1.output.trans h.bel.output), by have := h.bel.size; have := hg.size; omega, fun j hj => (hsame j (by omega) (fun e => by have := (hvl _ e).1; omega)).trans (h.bel.block j hj)⟩
  have hno : ∀ (W : World) (hW : A.heap.size ≤ W.heap.size), W.heap.size ≤ A.heap.size + 1 → GrpM W (w.heap.size + 1) (w.heap.size + 1 + 1) n wt (fun g => v.ownBlock = some g) → GrpM W (w.heap.size + 1) (w.heap.size + 1 + 1) n wt (fun g => v.ownBlock = some g ∨ (Value.slice a1 (way.length + 1) c1).ownBlock = some g) := fun W hW hW2 hG => hG.beside (row := none) (stay_grown (Stay.refl _)) (by simp) (fun j hj => by cases hj) (fun g hg => by
    rcases hg with hg | hg
    · exact .inl hg
    · rcases hq1 with e | e
      · exact .inl (e ▸ hg)
      · rw [e] at hg; have := Option.some.inj hg; exact .inr (by omega))
  refine ⟨a1, _, c1, A2, hr1, hk1, key A (hno A (Nat.le_refl _) (by omega) h.grp) hb1.size (fun g hg h1 _ => hk1 g hg h1), key _ (hno _ (by simp) (by simp) (h.grp.stay (Stay.new _ _))) (by rw [World.size_alloc]; omega) (fun g hg h1 h2 => ?_), key A2 hG2' (Nat.le_refl _) (fun _ _ _ _ => rfl)⟩
  exact hgl.block g hg (fun e => h1 e.symm)
end
end Go.Proofs.Ytpnjmldbohecdaa
