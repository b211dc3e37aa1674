/- LexBehind's walk: what stays between two rounds. -/
import Derived.Test.YtioafeckaeaopaaDoorYL
import Derived.Test.YtioafeckaeaopaaDoorYM
import Derived.Maps.AppendAt
namespace Go.Proofs.YtioafeckaeaopaaDoor
open Go.RowKit Go.Maps

theorem cell_same {w w' : World} {b k : Nat} (h : w'.heap[b]? = w.heap[b]?) : w'.cell? ⟨b, k, none⟩ = w.cell? ⟨b, k, none⟩ := by
  unfold World.cell?
  dsimp only
  rw [h]
theorem TkS.keep {w w' : World} {a : Option Addr} {b : Nat} {ts : List Tok} (h : TkS w a b ts) (hk : a = some ⟨b, 0, none⟩ → w'.heap[b]? = w.heap[b]?) : TkS w' a b ts := by
  refine ⟨h.1, fun j hj => ?_⟩
  have e := hk (h.1 (by omega))
  rw [cell_same e, cell_same e, cell_same e, cell_same e]
  exact h.2 j hj
/-- Between two rounds: the list that grows is the call's own, and what came behind the first answer stands as it stood at X. -/
structure LB (w W0 W1 X wr : World) (v : Value) (pre : List Tok) : Prop where
  own : OwnK W0.heap.size wr v pre
  blk : ∀ j, v.ownBlock = some j → j < W1.heap.size ∨ X.heap.size ≤ j
  mid : ∀ k, W1.heap.size ≤ k → k < X.heap.size → wr.heap[k]? = X.heap[k]?
  st : Stay w wr
  size : X.heap.size ≤ wr.heap.size
theorem LB.step {w W0 W1 X wr w1 : World} {v v' : Value} {pre : List Tok} {x : Tok} {o1 o2 : Obj} (h : LB w W0 W1 X wr v pre) (hw : w.heap.size ≤ W0.heap.size)
    (hown : w1.ownsRow W0.heap.size 25 4 v' (pre.length + 1) (cellsK pre ++ Tok.row x)) (hg : ((wr.alloc o1).alloc o2).grownBy w1 v.ownBlock)
    (hob : v'.ownBlock = v.ownBlock ∨ v'.ownBlock = some ((wr.alloc o1).alloc o2).heap.size) : LB w W0 W1 X w1 v' (pre ++ [x]) := by
  have hsz := h.size
  have hgs := hg.size
  rw [World.size_alloc, World.size_alloc] at hgs
  refine ⟨?_, fun j hj => ?_, fun k k1 k2 => ?_, ?_, by omega⟩
  · unfold OwnK
    rw [List.length_append, List.length_singleton, show cellsK (pre ++ [x]) = cellsK pre ++ Tok.row x by rw [cellsK_append]; simp [cellsK]]
    exact hown
  · rcases hob with e | e
    · exact h.blk j (e ▸ hj)
    · rw [e] at hj
      simp only [Option.some.injEq, World.size_alloc] at hj
      omega
  · refine (hg.block k (by rw [World.size_alloc, World.size_alloc]; omega) (fun e => ?_)).trans ?_
    · have := h.blk k e.symm
      omega
    · exact ((Below.heap_alloc _ _ k (by rw [World.size_alloc]; omega)).trans (Below.heap_alloc _ _ k (by omega))).trans (h.mid k k1 k2)
  · have s2 : Stay w ((wr.alloc o1).alloc o2) := (h.st.alloc _).alloc _
    exact s2.grown hg s2.size (fun k e => Nat.le_trans hw (World.ownsRow.lt h.own k e).1)
theorem take_move (l1 l2 : List Tok) (n k : Nat) (h : k < l2.length) : (l1 ++ (l2.take k).map (·.move n)) ++ [l2[k].move n] = l1 ++ (l2.take (k + 1)).map (·.move n) := by
  rw [List.take_succ_eq_append_getElem h, List.map_append, List.append_assoc]
  rfl
theorem lex_len (L : List UInt8) : (lexT L).1.length ≤ L.length := by
  have h := (tokF_len L (L.length + 1) 0 tok0 (Nat.zero_le _)).1
  have e : (lexT L).1 = (tokF L (L.length + 1) 0 tok0).1 := by unfold lexT; split <;> rfl
  rw [e]
  omega
theorem lex_far (L : List UInt8) : (lexT L).2.2.1 ≤ L.length := by
  have e : (lexT L).2.2.1 = (tokT L).2.1 := by unfold lexT; split <;> rfl
  rw [e]
  exact tokT_le L
/-- A token lies within its text. -/
def Within (n : Nat) (t : Tok) : Prop := t.at_ ≤ n ∧ t.fin ≤ n
theorem stepT_in (L : List UInt8) (far : Nat) (o : Tok) (h : far ≤ L.length) (ho : Within L.length o) : ((stepT L far o).2.1 = true → Within L.length (stepT L far o).1) ∧ Within L.length (stepT L far o).2.2.2 := by
  have h1 := farB_le L far h
  have h2 := firstT_le (L.drop (farB L far))
  rw [List.length_drop] at h2
  have hm : Within L.length ((firstT (L.drop (farB L far))).1.move (farB L far)) := by
    unfold Within Tok.move
    dsimp only
    omega
  unfold stepT
  split
  · exact ⟨fun h => by simp at h, ho⟩
  · split
    · exact ⟨fun _ => hm, ho⟩
    · exact ⟨fun h => by simp at h, hm⟩
theorem tokF_in (L : List UInt8) : ∀ (f far : Nat) (o : Tok), far ≤ L.length → Within L.length o → (∀ t ∈ (tokF L f far o).1, Within L.length t) ∧ Within L.length (tokF L f far o).2.2
  | 0, far, o, _, ho => ⟨fun t ht => by simp [tokF] at ht, ho⟩
  | f + 1, far, o, h, ho => by
    have hs := stepT_far L far o h
    have hi := stepT_in L far o h ho
    cases hb : (stepT L far o).2.1
    · rw [tokF_no hb]
      exact ⟨fun t ht => by simp at ht, hi.2⟩
    · rw [tokF_yes hb]
      have ih := tokF_in L f _ _ hs.2.1 hi.2
      refine ⟨fun t ht => ?_, ih.2⟩
      rcases List.mem_cons.1 ht with rfl | ht
      · exact hi.1 hb
      · exact ih.1 t ht
theorem lex_in (L : List UInt8) : (∀ t ∈ (lexT L).1, Within L.length t) ∧ Within L.length (lexT L).2.1 := by
  have h := tokF_in L (L.length + 1) 0 tok0 (Nat.zero_le _) ⟨Nat.zero_le _, Nat.zero_le _⟩
  unfold lexT
  split
  · exact h
  · exact ⟨h.1, Nat.zero_le _, Nat.zero_le _⟩
theorem wrap_sum (a l B A : Nat) (hB : B = l + 1) (hA : A = a + B) (h : a ≤ 1048576) (h2 : l ≤ 1048576) : Go.RowKit.wrap64 ((a : Int) + ((l : Int) + 1)) = (A : Int) := by
  unfold Go.RowKit.wrap64
  omega
end Go.Proofs.YtioafeckaeaopaaDoor
