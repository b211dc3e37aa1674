/- Tokens. -/
import Derived.Test.YtioafeckaeaopaaDoorXU
namespace Go.Proofs.YtioafeckaeaopaaDoor
open Go.RowKit Go.Maps Go.Shelf
attribute [local go_sem] Oper.semAt_some

def Tok.row (t : Tok) : List Value := [.int .i64 t.kind, .string ⟨t.text.toArray⟩, .int .i64 (t.at_ : Int), .int .i64 (t.fin : Int)]
/-- The cells of tokens. -/
def cellsK (ts : List Tok) : List Value := ts.flatMap Tok.row
theorem cellsK_len (ts : List Tok) : (cellsK ts).length = ts.length * 4 := by
  induction ts with
  | nil => rfl
  | cons t ts ih => simp only [cellsK, List.flatMap_cons, List.length_append, List.length_cons] at *; rw [ih]; simp [Tok.row]; omega
theorem cellsK_append (xs ys : List Tok) : cellsK (xs ++ ys) = cellsK xs ++ cellsK ys := by simp [cellsK]
/-- A list of tokens in memory of its own, at base or behind. -/
def OwnK (base : Nat) (w : World) (v : Value) (ts : List Tok) : Prop := w.ownsRow base 25 4 v ts.length (cellsK ts)
theorem OwnK.blocks {base : Nat} {w w' : World} {v : Value} {ts : List Tok} (h : OwnK base w v ts) (hk : ∀ (g : Nat) (cs : Array Value) (t : TypeId) (f : Nat × Nat), v.ownBlock = some g → w.heap[g]? = some (.cells cs t f) → w'.heap[g]? = some (.cells cs t f)) : OwnK base w' v ts := by
  refine ⟨h.1, ?_⟩
  rcases h.2 with hx | ⟨g, c, cur, rfl, hb, hh, rest⟩
  · exact .inl hx
  · exact .inr ⟨g, c, cur, rfl, hb, hk g _ _ _ rfl hh, rest⟩
theorem infoTok : (Tryd.prog.info? 25).map (fun i => (i.zero, i.size, i.bytes)) = some (some (.agg #[.int .i64 0, .string ⟨#[]⟩, .int .i64 0, .int .i64 0]), 4, 40) := by kernel_rfl

/-- Between two rounds of Tokens' loop: D is where the loop began. -/
structure TI (w : World) (D : Nat) (pre : List Tok) (W : World) : Prop where
  row : ∃ v, W.heap[w.heap.size + 1]? = some (.cells #[v] 22 (0, 0)) ∧ OwnK D W v pre
  res : W.heap[w.heap.size]? = some (.cells #[.int .i64 0, .string ⟨#[]⟩, .int .i64 0, .int .i64 0] 25 (0, 0))
  old : ∀ k, 2 ≤ k → k < w.heap.size → W.heap[k]? = w.heap[k]?
  os : W.os = w.os
  tape : W.tape = w.tape
  output : W.output = w.output
  size : D ≤ W.heap.size

theorem TI.keeps {w A A' : World} {D b Bn : Nat} {pre : List Tok} (h : TI w D pre A) (hb : b = w.heap.size + 2) (hBn : Bn = w.heap.size + 3) (hD : D = w.heap.size + 4) (ht : Turn (fun k => WS b Bn k ∨ D ≤ k) A A') (hc : ∀ (k : Nat) (cs : Array Value) (t : TypeId) (f : Nat × Nat), A.heap[k]? = some (Obj.cells cs t f) → ¬ WS b Bn k → A'.heap[k]? = some (Obj.cells cs t f)) (h2 : 2 ≤ w.heap.size) : TI w D pre A' := by
  obtain ⟨v, h1, hr⟩ := h.row
  have hn : ∀ k, 2 ≤ k → k ≠ b → k ≠ Bn → ¬ WS b Bn k := fun k h2 hb hB hw => by
    rcases hw with h | h | h
    · exact hb h
    · exact hB h
    · omega
  refine ⟨⟨v, hc _ _ _ _ h1 (hn _ (by omega) (by omega) (by omega)), hr.blocks (fun g cs t f hg hh => hc g cs t f hh ?_)⟩, hc _ _ _ _ h.res (hn _ (by omega) (by omega) (by omega)), fun k hk hkw => ?_, ht.os.trans h.os, ht.tape.trans h.tape, ht.output.trans h.output, Nat.le_trans h.size ht.size⟩
  · have := (World.ownsRow.lt hr g hg).1
    exact hn g (by omega) (by omega) (by omega)
  · have hs := h.size
    exact (ht.block k (by omega) (fun hw => by
      rcases hw with hw | hw
      · exact hn k hk (by omega) (by omega) hw
      · omega)).trans (h.old k hk hkw)

theorem tokens_seq (n : Nat) (hn : 1 ≤ n) (s : ByteArray) (hs : s.size ≤ 140737488355328) (b Bn : Nat) (w : World) (hT : Tabs w) (hA : WalkAt w b s 0 tok0) (hBn : w.heap[Bn]? = some (.cells #[.pointer (some ⟨b, 0, none⟩)] 65 (0, 0))) (hb : 2 ≤ b) (hne : b ≠ Bn) (N : Nat) (hN : (tokT s.data.toList).1.length ≤ N) :
    SeqT Fence.wide n Tryd.prog 44 #[.pointer (some ⟨Bn, 0, none⟩)] tokVal (WS b Bn) (fun xs A => WSd w s b (s.data.toList.length + 1) 0 tok0 xs A) (fun pre => pre <+: (tokT s.data.toList).1) N w := fun l J Jx W hW hJ hY h0 =>
  tokens1_in n hn l s hs b Bn 0 (s.data.toList.length + 1) tok0 w W hW hT hA hBn hb hne (Nat.zero_le _) (by simp) N hN J Jx hJ hY h0

/-- What Tokens answers: the tokens, what is open, how far, the error. -/
def lexT (L : List UInt8) : List Tok × Tok × Nat × Int :=
  if (tokT L).2.1 < L.length ∨ (tokT L).2.2.kind ≠ 0 then ((tokT L).1, (tokT L).2.2, (tokT L).2.1, 11) else ((tokT L).1, tok0, (tokT L).2.1, 0)

/-- A round appends a token. -/
theorem TI.step {w X w1 : World} {D : Nat} {pre : List Tok} {x : Tok} {v : Value} {g cap : Nat} {o : Obj} (h : TI w D pre X) (hD : D = w.heap.size + 4) (hb : X.heap[w.heap.size + 1]? = some (.cells #[v] 22 (0, 0))) (hr : OwnK D X v pre)
    (hown : w1.ownsRow D 25 4 (.slice (some ⟨g, 0, none⟩) (pre.length + 1) cap) (pre.length + 1) (cellsK pre ++ Tok.row x)) (hg : (X.alloc o).grownBy w1 v.ownBlock) :
    TI w D (pre ++ [x]) (w1.setCell ⟨w.heap.size + 1, 0, none⟩ (.slice (some ⟨g, 0, none⟩) (pre.length + 1) cap)) ∧ (∀ k, k < X.heap.size → k ≠ w.heap.size + 1 → v.ownBlock ≠ some k → (w1.setCell ⟨w.heap.size + 1, 0, none⟩ (.slice (some ⟨g, 0, none⟩) (pre.length + 1) cap)).heap[k]? = X.heap[k]?) ∧
      w1.cell? ⟨w.heap.size + 1, 0, none⟩ = some v ∧ w1.frozen? ⟨w.heap.size + 1, 0, none⟩ = false := by
  have hsz := h.size
  have hlow : ∀ k, k < D → v.ownBlock ≠ some k := fun k hk e => by have := (World.ownsRow.lt hr k e).1; omega
  have hsame : ∀ k, k < X.heap.size → v.ownBlock ≠ some k → w1.heap[k]? = X.heap[k]? := fun k hk hn => (hg.block k (by simp; omega) (fun e => hn e.symm)).trans (Below.heap_alloc X _ k hk)
  have hall : ∀ k, k < X.heap.size → k ≠ w.heap.size + 1 → v.ownBlock ≠ some k → (w1.setCell ⟨w.heap.size + 1, 0, none⟩ (.slice (some ⟨g, 0, none⟩) (pre.length + 1) cap)).heap[k]? = X.heap[k]? := fun k hk hne hn =>
    (Below.heap_setCell _ _ _ _ hne).trans (hsame k hk hn)
  have hb1 : w1.heap[w.heap.size + 1]? = some (.cells #[v] 22 (0, 0)) := (hsame _ (by omega) (hlow _ (by omega))).trans hb
  have hgb : D ≤ g := (World.ownsRow.lt hown g rfl).1
  refine ⟨⟨⟨_, (heap_setCell_same w1 _ 0 _ _ _ hb1).trans rfl, ?_⟩, (hall _ (by omega) (by omega) (hlow _ (by omega))).trans h.res, fun k hk hkw => (hall k (by omega) (by omega) (hlow k (by omega))).trans (h.old k hk hkw), hg.os.trans h.os, hg.tape.trans h.tape, hg.output.trans h.output, ?_⟩, hall, by simp [World.cell?, hb1], by simp [World.frozen?, hb1]⟩
  · have e : cellsK (pre ++ [x]) = cellsK pre ++ Tok.row x := by rw [cellsK_append]; simp [cellsK]
    unfold OwnK
    rw [List.length_append, List.length_singleton, e]
    refine ⟨hown.1, ?_⟩
    rcases hown.2 with hx | ⟨g', c, cur, hv, hb', hh, rest⟩
    · exact .inl hx
    · refine .inr ⟨g', c, cur, hv, hb', (Below.heap_setCell _ _ _ _ ?_).trans hh, rest⟩
      show g' ≠ w.heap.size + 1
      omega
  · have := hg.size
    simp at this
    simp only [World.setCell, Array.size_modify]
    omega

/-- A token is stored into the result's block. -/
def putRes (A : World) (r : Nat) (t : Tok) : World := ((((A.setCell ⟨r, 0, none⟩ (.int .i64 t.kind)).setCell ⟨r, 1, none⟩ (.string ⟨t.text.toArray⟩)).setCell ⟨r, 2, none⟩ (.int .i64 (t.at_ : Int))).setCell ⟨r, 3, none⟩ (.int .i64 (t.fin : Int))).drew
theorem putRes_other (A : World) (r : Nat) (t : Tok) (k : Nat) (h : k ≠ r) : (putRes A r t).heap[k]? = A.heap[k]? :=
  (Below.heap_setCell _ _ _ _ h).trans ((Below.heap_setCell _ _ _ _ h).trans ((Below.heap_setCell _ _ _ _ h).trans (Below.heap_setCell _ _ _ _ h)))
theorem putRes_same {A : World} {r : Nat} {v0 v1 v2 v3 : Value} {T : TypeId} (h : A.heap[r]? = some (.cells #[v0, v1, v2, v3] T (0, 0))) (t : Tok) : (putRes A r t).heap[r]? = some (.cells #[.int .i64 t.kind, .string ⟨t.text.toArray⟩, .int .i64 (t.at_ : Int), .int .i64 (t.fin : Int)] T (0, 0)) :=
  set4 h (.int .i64 t.kind) (.string ⟨t.text.toArray⟩) (.int .i64 (t.at_ : Int)) (.int .i64 (t.fin : Int))
theorem putRes_size (A : World) (r : Nat) (t : Tok) : (putRes A r t).heap.size = A.heap.size := by simp [putRes, World.setCell, World.drew]
theorem tok_end {w V A : World} {v : Value} {xs : List Tok} (hI : TI w V.heap.size xs A) (hW : OwnK V.heap.size A v xs ∧ A.heap[V.heap.size]? = some (.deferred (some [])) ∧ A.heap[0]? = V.heap[0]? ∧ A.heap[1]? = V.heap[1]?) (stV : Stay w V) (sV : V.heap.size = w.heap.size + 4) (t : Tok) :
    (putRes A w.heap.size t).heap[w.heap.size + 4]? = some (.deferred (some [])) ∧ OwnK w.heap.size ((putRes A w.heap.size t).putObj (w.heap.size + 4) (.deferred none)) v xs ∧ Stay w ((putRes A w.heap.size t).putObj (w.heap.size + 4) (.deferred none)) ∧
      ((putRes A w.heap.size t).putObj (w.heap.size + 4) (.deferred none)).heap[w.heap.size]? = some (.cells #[.int .i64 t.kind, .string ⟨t.text.toArray⟩, .int .i64 (t.at_ : Int), .int .i64 (t.fin : Int)] 25 (0, 0)) := by
  obtain ⟨hrow, hdd, h0, h1⟩ := hW
  have hs := hI.size
  rw [sV] at hdd
  have hd2 : (putRes A w.heap.size t).heap[w.heap.size + 4]? = some (.deferred (some [])) := (putRes_other A w.heap.size t (w.heap.size + 4) (by omega)).trans hdd
  have hr2 := putRes_same hI.res t
  have hz := putRes_size A w.heap.size t
  have ho2 : (putRes A w.heap.size t).os = w.os ∧ (putRes A w.heap.size t).tape = w.tape ∧ (putRes A w.heap.size t).output = w.output := ⟨hI.os, hI.tape, hI.output⟩
  have hoth := putRes_other A w.heap.size t
  generalize putRes A w.heap.size t = Z at *
  have hput : ∀ k, k ≠ w.heap.size + 4 → (Z.putObj (w.heap.size + 4) (.deferred none)).heap[k]? = Z.heap[k]? := fun k hk => World.putObj_heap_other hk
  refine ⟨hd2, ?_, ⟨ho2.1, ho2.2.1, ho2.2.2, ?_, fun k hk => ?_⟩, (hput _ (by omega)).trans hr2⟩
  · refine ⟨hrow.1, ?_⟩
    rcases hrow.2 with hx | ⟨g, c, cur, rfl, hb, hh, rest⟩
    · exact .inl hx
    · have hg : g ≠ w.heap.size + 4 := by
        rintro rfl
        rw [hdd] at hh; cases hh
      exact .inr ⟨g, c, cur, rfl, by omega, (hput g hg).trans ((hoth g (by omega)).trans hh), rest⟩
  · simp [hz]; omega
  · rw [hput k (by omega), hoth k (by omega)]
    by_cases hk2 : 2 ≤ k
    · exact hI.old k hk2 hk
    · rcases k with _ | _ | k
      · exact h0.trans (stV.block 0 hk)
      · exact h1.trans (stV.block 1 hk)
      · omega

set_option maxRecDepth 100000 in
set_option maxHeartbeats 4000000 in
theorem Tokens_any (s : ByteArray) (hs : s.size ≤ 16777216) (w : World) (hT : Tabs w) :
    Calls Tryd.prog 9 #[.string s] w fun e w' => ∃ v, e = .returned (.tuple #[v, (lexT s.data.toList).2.1.val, .int .i64 ((lexT s.data.toList).2.2.1 : Int), .int .i64 (lexT s.data.toList).2.2.2]) ∧ OwnK w.heap.size w' v (lexT s.data.toList).1 ∧ Stay w w' := by
  have h2 := hT.lt
  obtain ⟨rl, rt, rf, re, hR⟩ : ∃ rl rt rf re, lexT s.data.toList = (rl, rt, rf, re) := ⟨_, _, _, _, rfl⟩
  rw [hR]
  have HR : Hid (lexT s.data.toList = (rl, rt, rf, re)) := hR
  clear hR
  refine (callsIn_wide (n := 4)).1 ?_
  refine callsIn_of_wp_marks Tryd.func9 rfl trivial ?_ rfl
  simp only [Tryd.ntmps9, List.size_toArray, List.length_cons, List.length_nil, Nat.reduceAdd, Nat.reduceSub, Array.replicate_succ, Array.replicate_zero, List.push_toArray, List.append_toArray, List.nil_append, List.cons_append]
  gi_wp2_with (refine ⟨trivial, ?_⟩; gi_at_call 29; refine CallsIn.mono (callsIn_wide.2 (tokens_any _ _)) ?_; rintro e w' ⟨rfl, rfl⟩)
  obtain ⟨V, hV⟩ : ∃ V, V = (((w.alloc (.cells #[.int .i64 0, .string ⟨#[]⟩, .int .i64 0, .int .i64 0] 25)).alloc (.cells #[.slice none 0 0] 22)).alloc (.cells #[.string s, .int .i64 0, .int .i64 0, .string ⟨#[]⟩, .int .i64 0, .int .i64 0] 46)).alloc (.cells #[.pointer (some ⟨w.heap.size + 1 + 1, 0, none⟩)] 65) := ⟨_, rfl⟩
  rw [← hV]
  have sV : V.heap.size = w.heap.size + 4 := by rw [hV]; simp
  have stV : Stay w V := by rw [hV]; exact (((Stay.new _ _).alloc _).alloc _).alloc _
  have v0 : V.heap[w.heap.size]? = some (.cells #[.int .i64 0, .string ⟨#[]⟩, .int .i64 0, .int .i64 0] 25 (0, 0)) := by
    rw [hV]; exact (Below.heap_alloc _ _ _ (by simp only [World.size_alloc]; omega)).trans ((Below.heap_alloc _ _ _ (by simp only [World.size_alloc]; omega)).trans ((Below.heap_alloc _ _ _ (by simp only [World.size_alloc]; omega)).trans (heap_new _ _)))
  have v1 : V.heap[w.heap.size + 1]? = some (.cells #[.slice none 0 0] 22 (0, 0)) := by
    rw [hV]; refine (Below.heap_alloc _ _ _ (by simp only [World.size_alloc]; omega)).trans ((Below.heap_alloc _ _ _ (by simp only [World.size_alloc]; omega)).trans ?_)
    have := heap_new (w.alloc (.cells #[.int .i64 0, .string ⟨#[]⟩, .int .i64 0, .int .i64 0] 25)) (.cells #[.slice none 0 0] 22)
    rwa [World.size_alloc] at this
  have v2 : V.heap[w.heap.size + 1 + 1]? = some (.cells #[.string s, .int .i64 0, .int .i64 0, .string ⟨#[]⟩, .int .i64 0, .int .i64 0] 46 (0, 0)) := by
    rw [hV]; refine (Below.heap_alloc _ _ _ (by simp)).trans ?_
    have := heap_new ((w.alloc (.cells #[.int .i64 0, .string ⟨#[]⟩, .int .i64 0, .int .i64 0] 25)).alloc (.cells #[.slice none 0 0] 22)) (.cells #[.string s, .int .i64 0, .int .i64 0, .string ⟨#[]⟩, .int .i64 0, .int .i64 0] 46)
    rwa [World.size_alloc, World.size_alloc] at this
  have v3 : V.heap[w.heap.size + 1 + 1 + 1]? = some (.cells #[.pointer (some ⟨w.heap.size + 1 + 1, 0, none⟩)] 65 (0, 0)) := by
    rw [hV]
    have := heap_new (((w.alloc (.cells #[.int .i64 0, .string ⟨#[]⟩, .int .i64 0, .int .i64 0] 25)).alloc (.cells #[.slice none 0 0] 22)).alloc (.cells #[.string s, .int .i64 0, .int .i64 0, .string ⟨#[]⟩, .int .i64 0, .int .i64 0] 46)) (.cells #[.pointer (some ⟨w.heap.size + 1 + 1, 0, none⟩)] 65)
    rwa [World.size_alloc, World.size_alloc, World.size_alloc] at this
  clear hV
  have hTI : TI w V.heap.size [] V := ⟨⟨_, v1, World.ownsRow_nil _ _ _ _⟩, v0, fun k _ hk => stV.block k hk, stV.os, stV.tape, stV.output, Nat.le_refl _⟩
  obtain ⟨i0, hi, hz0, hz1, hz2⟩ := info_parts infoTok
  have hlen : (tokT s.data.toList).1.length ≤ 16777216 := by
    have := (tokF_len s.data.toList (s.data.toList.length + 1) 0 tok0 (Nat.zero_le _)).1
    rw [show s.data.toList.length = s.size by simp] at this
    unfold tokT
    rw [show s.data.toList.length = s.size by simp]
    omega
  refine' range_turns (α := Tok) rfl (by decide) (gf := 44) (lb := #[.pointer (some ⟨w.heap.size + 1 + 1 + 1, 0, none⟩)]) rfl trivial (enters_of Tryd.func44 (by kernel_rfl) rfl)
    (tokens_seq (4 - 1) (by decide) s (by omega) (w.heap.size + 1 + 1) (w.heap.size + 1 + 1 + 1) V (hT.stay stV) v2 v3 (by omega) (by omega) 16777216 hlen) (fun k hk => ?hS) (fun _ => rfl)
    (fun xs A A' hA hH => ?hSd) (fun pre W => TI w V.heap.size pre W) (fun _ _ _ => False) (fun pre A A' hA ht hc => ?hI) (fun _ _ _ _ h _ _ => h) hTI (fun x => .cells #[.int .i64 x.kind, .string ⟨x.text.toArray⟩, .int .i64 (x.at_ : Int), .int .i64 (x.fin : Int)] 25) _ ?assign ?body ?done ?stop
  case hS =>
    rcases hk with h | h | h <;> omega
  case hSd =>
    obtain ⟨h1, h2, h3, h4⟩ := hA
    exact ⟨h1, (hH _ (.inl rfl)).trans h2, (hH 0 (.inr (.inr (by omega)))).trans h3, (hH 1 (.inr (.inr (by omega)))).trans h4⟩
  case hI => exact hA.keeps rfl rfl sV ht hc h2
  case assign =>
    intro l x W K hK
    dsimp only [tokVal]
    gi_wp2
    exact hK
  case stop =>
    rintro _ _ _ _ h _
    exact h.elim
  case body =>
    intro l pre x W X hX ho hWs hl hr hd hlt
    obtain ⟨v, hbx, hrow⟩ := hX.row
    have hx8 : X.heap[W.heap.size]? = some (.cells #[.int .i64 x.kind, .string ⟨x.text.toArray⟩, .int .i64 (x.at_ : Int), .int .i64 (x.fin : Int)] 25 (0, 0)) := by
      obtain ⟨o', rfl⟩ := ho
      exact (World.putObj_heap_other (by omega)).trans (heap_new _ _)
    obtain ⟨x0, x1, x2, x3, -⟩ := four hx8
    have cb : X.cell? ⟨w.heap.size + 1, 0, none⟩ = some v := by simp [World.cell?, hbx]
    have hXs := hX.size
    have HX : Hid (TI w V.heap.size pre X) := hX
    have HBX : Hid (X.heap[w.heap.size + 1]? = some (.cells #[v] 22 (0, 0))) := hbx
    have HROW : Hid (OwnK V.heap.size X v pre) := hrow
    have HD : Hid (∀ k, k = V.heap.size ∨ k = V.heap.size + 1 → v.ownBlock ≠ some k) := by
      show ∀ k, k = V.heap.size ∨ k = V.heap.size + 1 → v.ownBlock ≠ some k
      rintro k hk hv
      rcases hrow.2 with ⟨rfl, _⟩ | ⟨g, c, cur, rfl, _, hh, _⟩
      · simp [Value.ownBlock] at hv
      · simp only [Value.ownBlock, Option.some.injEq] at hv
        subst hv
        rcases hk with rfl | rfl
        · rw [hd] at hh; cases hh
        · obtain ⟨r, hr⟩ := hr
          rw [hr] at hh; cases hh
    have hXl : V.heap.size + 1 < X.heap.size := by
      obtain ⟨r, hr⟩ := hr
      exact (Array.getElem?_eq_some_iff.1 hr).1
    obtain ⟨k1, k2, k3, k4⟩ := x
    dsimp only at *
    clear hX hbx hrow ho hr hd hx8 hTI v0 v1 v2 v3 stV hlen
    gi_wp2_with (gi_at_builtin; refine wpListIn_append_own _ rfl _ _ 22 rfl V.heap.size 25 i0 _ 4 40 Tryd.underlying22 hi hz0 hz1 hz2 rfl (by decide) _ _ _ rfl (World.ownsRow.alloc HROW.out _) ⟨X.heap.size, 0, none⟩ 1 1 (Tok.row ⟨k1, k2, k3, k4⟩) rfl rfl (new_cells X (Tok.row ⟨k1, k2, k3, k4⟩) _) (by simp [Tok.row, Value.oneCell']) (by unfold maxLen; omega) (by omega) (by simp; omega) ?_; intro v' w1 hown' hgrow _; obtain ⟨g', cap', rfl⟩ := ownsRow_succ hown'; obtain ⟨hT1, hT2, hT3, hT4⟩ := TI.step HX.out sV HBX.out HROW.out hown' hgrow; have H1 : Hid (TI w V.heap.size (pre ++ [⟨k1, k2, k3, k4⟩]) (w1.setCell ⟨w.heap.size + 1, 0, none⟩ (.slice (some ⟨g', 0, none⟩) (pre.length + 1) cap'))) := hT1; have H2 : Hid (∀ k, k < X.heap.size → k ≠ w.heap.size + 1 → v.ownBlock ≠ some k → (w1.setCell ⟨w.heap.size + 1, 0, none⟩ (.slice (some ⟨g', 0, none⟩) (pre.length + 1) cap')).heap[k]? = X.heap[k]?) := hT2; clear hT1 hT2 hown' hgrow)
    refine ⟨fun k hk => ?_, H1.out⟩
    have hlow : ∀ k, k < V.heap.size → v.ownBlock ≠ some k := fun k hk e => by have := (World.ownsRow.lt HROW.out k e).1; omega
    rcases hk with (rfl | rfl | hk) | hk
    · exact H2.out _ (by omega) (by omega) (hlow _ (by omega))
    · exact H2.out _ (by omega) (by omega) (hlow _ (by omega))
    · exact H2.out _ (by omega) (by omega) (hlow _ (by omega))
    · exact H2.out _ (by omega) (by omega) (HD.out _ hk)
  case done =>
    rintro xs A ⟨hxs, hwk, h0, h1⟩ hI hdd
    obtain ⟨v, hbx, hrow⟩ := hI.row
    have hfl := (tokF_len s.data.toList (s.data.toList.length + 1) 0 tok0 (Nat.zero_le _)).2
    have hR := HR.out
    unfold lexT tokT at hR
    rw [show s.data.toList.length = s.size by simp] at hfl hR hwk hxs
    rw [← hxs] at hR
    clear HR hlen hxs v0 v1 v2 v3 hTI hi hz0 hz1 hz2
    generalize tokF s.data.toList (s.size + 1) 0 tok0 = T at *
    obtain ⟨tl, tf, to⟩ := T
    obtain ⟨o1, o2, o3, o4⟩ := to
    dsimp only at *
    obtain ⟨c0, c1, c2, c3, c4, c5, -⟩ := six hwk
    obtain ⟨r0, r1, r2, r3, r4, r5, r6, r7⟩ := four hI.res
    have cb : A.cell? ⟨w.heap.size + 1, 0, none⟩ = some v := by simp [World.cell?, hbx]
    have HI : Hid (TI w V.heap.size xs A) := hI
    have HW : Hid (OwnK V.heap.size A v xs ∧ A.heap[V.heap.size]? = some (.deferred (some [])) ∧ A.heap[0]? = V.heap[0]? ∧ A.heap[1]? = V.heap[1]?) := ⟨hrow, hdd, h0, h1⟩
    have hAs := hI.size
    clear hI hrow hdd h0 h1 hwk hbx
    by_cases hc : tf < s.size
    · have hci : (tf : Int) < (s.size : Int) := by omega
      rw [if_pos (.inl hc)] at hR
      simp only [Prod.mk.injEq] at hR
      obtain ⟨rfl, rfl, rfl, rfl⟩ := hR
      have HE : Hid _ := tok_end HI.out HW.out stV sV ⟨o1, o2, o3, o4⟩
      clear HI HW stV
      gi_wp2
      refine wpIn_wide.2 ?_
      go_region
      gi_wp2
      refine ⟨by simp, .inl ⟨_, _, rfl, run_takeDeferred HE.out.1, ?_⟩⟩
      obtain ⟨q0, q1, q2, q3, -⟩ := four HE.out.2.2.2
      unfold putRes at q0 q1 q2 q3
      dsimp only at q0 q1 q2 q3
      refine ⟨.tuple #[v, .agg #[.int .i64 o1, .string ⟨o2.toArray⟩, .int .i64 (o3 : Int), .int .i64 (o4 : Int)], .int .i64 (tf : Int), .int .i64 11], ?_, v, rfl, HE.out.2.1, HE.out.2.2.1⟩
      simp [results, Tryd.results9, go_sem, q0, q1, q2, q3]
    · have hci : ¬ (tf : Int) < (s.size : Int) := by omega
      by_cases hk : o1 = 0
      · subst hk
        rw [if_neg (by simp; omega)] at hR
        simp only [Prod.mk.injEq] at hR
        obtain ⟨rfl, rfl, rfl, rfl⟩ := hR
        have e := tok_end HI.out HW.out stV sV tok0
        unfold putRes tok0 at e
        dsimp only at e
        rw [show ((0 : Nat) : Int) = 0 from rfl] at e
        have HE : Hid _ := e
        clear e
        clear HI HW stV
        gi_wp2
        refine wpIn_wide.2 ?_
        go_region
        gi_wp2
        refine ⟨by simp, .inl ⟨_, _, rfl, run_takeDeferred HE.out.1, ?_⟩⟩
        obtain ⟨q0, q1, q2, q3, -⟩ := four HE.out.2.2.2
        refine ⟨.tuple #[v, .agg #[.int .i64 0, .string ⟨#[]⟩, .int .i64 0, .int .i64 0], .int .i64 (tf : Int), .int .i64 0], ?_, v, rfl, HE.out.2.1, HE.out.2.2.1⟩
        simp [results, Tryd.results9, go_sem, q0, q1, q2, q3]
      · have hkb : (o1 != 0) = true := by simpa using hk
        rw [if_pos (.inr hk)] at hR
        simp only [Prod.mk.injEq] at hR
        obtain ⟨rfl, rfl, rfl, rfl⟩ := hR
        have HE : Hid _ := tok_end HI.out HW.out stV sV ⟨o1, o2, o3, o4⟩
        clear HI HW stV
        gi_wp2
        refine wpIn_wide.2 ?_
        go_region
        gi_wp2
        refine ⟨by simp, .inl ⟨_, _, rfl, run_takeDeferred HE.out.1, ?_⟩⟩
        obtain ⟨q0, q1, q2, q3, -⟩ := four HE.out.2.2.2
        unfold putRes at q0 q1 q2 q3
        dsimp only at q0 q1 q2 q3
        refine ⟨.tuple #[v, .agg #[.int .i64 o1, .string ⟨o2.toArray⟩, .int .i64 (o3 : Int), .int .i64 (o4 : Int)], .int .i64 (tf : Int), .int .i64 11], ?_, v, rfl, HE.out.2.1, HE.out.2.2.1⟩
        simp [results, Tryd.results9, go_sem, q0, q1, q2, q3]
end Go.Proofs.YtioafeckaeaopaaDoor
