/- Lists that stand in an array, each in memory of its own: what apart is asked about. No walk here. -/
import Derived.Test.YtnmaldgmlkcliaaTB
namespace Go.Proofs.Ytnmaldgmlkcliaa
open Go.RowKit Go.Maps Go.Sort

/-- The first n marks of list i. -/
def markL (i n : Nat) : List (Int × Int) := (List.range n).map fun k : Nat => (1000 + (i : Int), (k : Int))
theorem markL_len (i n : Nat) : (markL i n).length = n := by simp [markL]
theorem markL_succ (i n : Nat) : markL i (n + 1) = markL i n ++ [(1000 + (i : Int), (n : Int))] := by simp [markL, List.range_succ]
theorem markL_at (i n k : Nat) (h : k < n) : (markL i n)[k]'(by rw [markL_len]; exact h) = (1000 + (i : Int), (k : Int)) := by simp [markL]
theorem markL_take (i n m : Nat) (h : n ≤ m) : (markL i m).take n = markL i n := by
  apply List.ext_getElem
  · rw [List.length_take, markL_len, markL_len]; omega
  · intro k h1 h2
    rw [markL_len] at h2
    rw [List.getElem_take, markL_at i m k (by omega), markL_at i n k h2]
/-- The first q of l, written over. -/
def mixL (i q : Nat) (l : List (Int × Int)) : List (Int × Int) := markL i q ++ l.drop q
theorem mixL_zero (i : Nat) (l : List (Int × Int)) : mixL i 0 l = l := by simp [mixL, markL]
theorem mixL_all (i : Nat) (l : List (Int × Int)) : mixL i l.length l = markL i l.length := by simp [mixL]
theorem mixL_len (i q : Nat) (l : List (Int × Int)) (h : q ≤ l.length) : (mixL i q l).length = l.length := by
  rw [mixL, List.length_append, markL_len, List.length_drop]; omega
theorem mixL_step (i q : Nat) (l : List (Int × Int)) (h : q < l.length) : (mixL i q l).set q (1000 + (i : Int), (q : Int)) = mixL i (q + 1) l := by
  rw [mixL, List.set_append, if_neg (by rw [markL_len]; omega), markL_len, Nat.sub_self, List.drop_eq_getElem_cons h, List.set_cons_zero, mixL, markL_succ, List.append_assoc]
  rfl

/-- Another list in the place of list i. -/
def upd (t : Nat → List (Int × Int)) (i : Nat) (l : List (Int × Int)) : Nat → List (Int × Int) := fun j => if j = i then l else t j
theorem upd_at (t : Nat → List (Int × Int)) (i : Nat) (l : List (Int × Int)) : upd t i l i = l := by simp [upd]
theorem upd_else (t : Nat → List (Int × Int)) (i : Nat) (l : List (Int × Int)) {j : Nat} (h : j ≠ i) : upd t i l j = t j := by simp [upd, h]
/-- The first k lists, written over. -/
def overL (t : Nat → List (Int × Int)) (k : Nat) : Nat → List (Int × Int) := fun j => if j < k then markL j (t j).length else t j
theorem overL_len (t : Nat → List (Int × Int)) (k j : Nat) : (overL t k j).length = (t j).length := by
  unfold overL; split
  · rw [markL_len]
  · rfl
theorem overL_self (t : Nat → List (Int × Int)) (k : Nat) : overL t k k = t k := by simp [overL]

/-- Where n lists stand: block B names them, and none lies where another one does. -/
structure Spread (B n : Nat) (v : Nat → Value) : Prop where
  apart : ∀ i j, i < n → j < n → i ≠ j → ∀ b, (v i).ownBlock = some b → (v j).ownBlock ≠ some b
  off : ∀ i, i < n → (v i).ownBlock ≠ some B
/-- Block B names n lists, each in memory of its own. -/
structure Lists (base : Nat) (w : World) (B n : Nat) (v : Nat → Value) (t : Nat → List (Int × Int)) : Prop where
  sp : Spread B n v
  ats : ∀ i, i < n → w.cell? ⟨B, i, none⟩ = some (v i)
  own : ∀ i, i < n → OwnT base w (v i) (t i)
section
variable {base B n : Nat} {w w' : World} {v : Nat → Value} {t t' : Nat → List (Int × Int)}
theorem Lists.congr (h : Lists base w B n v t) (e : ∀ j, j < n → t j = t' j) : Lists base w B n v t' :=
  ⟨h.sp, h.ats, fun i hi => e i hi ▸ h.own i hi⟩
theorem Lists.stay (h : Lists base w B n v t) (hs : Stay w w') : Lists base w' B n v t :=
  ⟨h.sp, fun i hi => hs.cell (h.ats i hi), fun i hi => (h.own i hi).stay hs⟩
/-- A value that owns a row with things in it. -/
theorem OwnT.at_least {v : Value} {ts : List (Int × Int)} (h : OwnT base w v ts) (q : Nat) (hq : q < ts.length) : ∃ g cap, v = .slice (some ⟨g, 0, none⟩) ts.length cap ∧ RowT w g cap ts ∧ base ≤ g := by
  refine h.row (fun e => ?_)
  rcases h.2 with ⟨_, h0⟩ | ⟨b, c, cur, hv, _⟩
  · omega
  · rw [e] at hv; simp at hv
theorem Lists.put (h : Lists base w B n v t) {i g cap q : Nat} (hi : i < n) (hv : v i = .slice (some ⟨g, 0, none⟩) (t i).length cap) (hR : RowT w g cap (t i)) (hb : base ≤ g) (hq : q < (t i).length) (x : Int × Int) :
    Lists base (putT w g q x) B n v (upd t i ((t i).set q x)) := by
  have hg : (v i).ownBlock = some g := by rw [hv]; rfl
  have hB : B ≠ g := fun e => h.sp.off i hi (by rw [hg, e])
  have hT : Turn (fun k => k = g) w (putT w g q x) := putT_turn (S := fun k => k = g) (Turn.refl _ _) rfl q x
  refine ⟨h.sp, fun j hj => hT.cell (h.ats j hj) hB, fun j hj => ?_⟩
  by_cases e : j = i
  · subst e
    rw [upd_at, hv]
    have := (hR.store q x hq).own hb
    rwa [List.length_set] at this
  · rw [upd_else _ _ _ e]
    exact (h.own j hj).turn hT (fun k hk ek => h.sp.apart j i hj hi e k hk (by rw [hg, ek]))
theorem Lists.over_start (h : Lists base w B n v t) : Lists base w B n v (overL t 0) := h.congr (fun j _ => by simp [overL])
theorem Lists.over_in {k : Nat} (h : Lists base w B n v (overL t k)) : Lists base w B n v (upd (overL t k) k (mixL k 0 (t k))) :=
  h.congr (fun j _ => by by_cases e : j = k
                         · subst e; rw [upd_at, mixL_zero, overL_self]
                         · rw [upd_else _ _ _ e])
theorem Lists.over_out {k : Nat} (h : Lists base w B n v (upd (overL t k) k (mixL k (t k).length (t k)))) : Lists base w B n v (overL t (k + 1)) :=
  h.congr (fun j _ => by by_cases e : j = k
                         · subst e; rw [upd_at, mixL_all]; simp [overL]
                         · rw [upd_else _ _ _ e]
                           unfold overL
                           by_cases h1 : j < k
                           · rw [if_pos h1, if_pos (by omega)]
                           · rw [if_neg h1, if_neg (by omega)])
theorem Lists.over_step {k g cap q : Nat} (h : Lists base w B n v (upd (overL t k) k (mixL k q (t k)))) (hk : k < n) (hv : v k = .slice (some ⟨g, 0, none⟩) (t k).length cap) (hR : RowT w g cap (mixL k q (t k))) (hb : base ≤ g) (hq : q < (t k).length) :
    Lists base (putT w g q (1000 + (k : Int), (q : Int))) B n v (upd (overL t k) k (mixL k (q + 1) (t k))) := by
  have hl := mixL_len k q (t k) (by omega)
  have := h.put (i := k) (g := g) (cap := cap) (q := q) hk (by rw [upd_at, hl]; exact hv) (by rw [upd_at]; exact hR) hb (by rw [upd_at, hl]; exact hq) (1000 + (k : Int), (q : Int))
  refine this.congr (fun j _ => ?_)
  by_cases e : j = k
  · subst e; rw [upd_at, upd_at, upd_at, mixL_step _ _ _ hq]
  · rw [upd_else _ _ _ e, upd_else _ _ _ e, upd_else _ _ _ e]
end

/-- An append of one thing leaves what there was at its old place. -/
theorem append_thing_keeps {base : Nat} {w : World} {v : Value} {ts : List (Int × Int)} (ty : TypeId) (hown : OwnT base w v ts) (x1 x2 : Int) (hb : (ts.length + 1) * 16 ≤ 140737488355328) (hbase : base ≤ w.heap.size) :
    ∃ v' w', (Builtin.append_ #[23, 23] ty #[v, .slice (some ⟨w.heap.size, 0, none⟩) 1 1]).run Try.prog (w.alloc (.cells #[.int .i64 x1, .int .i64 x2] 26)) = .ok v' w' ∧ OwnT base w' v' (ts ++ [(x1, x2)]) ∧ (w.alloc (.cells #[.int .i64 x1, .int .i64 x2] 26)).grownBy w' v.ownBlock ∧ v' ≠ .slice none 0 0 ∧ (v'.ownBlock = v.ownBlock ∨ v'.ownBlock = some (w.heap.size + 1)) ∧ ∀ g, v.ownBlock = some g → ThS w' (some ⟨g, 0, none⟩) g 0 ts := by
  obtain ⟨v', w', hr, h2, h3, h4, h5⟩ := append_thing ty hown x1 x2 hb hbase
  refine ⟨v', w', hr, h2, h3, h4, h5, fun g hg => ?_⟩
  have hn : v ≠ .slice none 0 0 := fun e => by rw [e] at hg; simp [Value.ownBlock] at hg
  obtain ⟨g', cap, hv, hR, hgb⟩ := hown.row hn
  obtain rfl : g' = g := by rw [hv] at hg; simpa [Value.ownBlock] using hg
  have hglt := hR.lt
  obtain ⟨i0, hi, hz0, hz1, hz2⟩ := info_parts infoTh
  have hR1 := hR.stay (Stay.new w (.cells #[.int .i64 x1, .int .i64 x2] 26))
  have hT := hR1.things
  have hnews := things_lit w [(x1, x2)] 26
  by_cases hroom : ts.length + 1 ≤ cap
  · obtain ⟨cur, hh, k1, k2, k3, k4⟩ := hR1
    have e := run_append_room (P := Try.prog) (w.alloc (.cells #[.int .i64 x1, .int .i64 x2] 26)) 23 ty 26 i0 Try.underlying23 hi g' ts.length cap cur hh ⟨w.heap.size, 0, none⟩ 1 1 (cellsT [(x1, x2)]) (by rw [hz1]; rfl) (src_th hnews _ rfl) (cellsT_one _) hroom (by rw [hz1]; show _ ≤ _; have : (cellsT [(x1, x2)]).length = 2 := rfl; omega)
    rw [hv, e] at hr
    simp only [Result.ok.injEq] at hr
    have hv' : v'.ownBlock = some g' := by rw [← hr.1]; rfl
    obtain ⟨g2, c2, hv2, hR2, _⟩ := h2.row h4
    obtain rfl : g2 = g' := by rw [hv2] at hv'; simpa [Value.ownBlock] using hv'
    have hT2 := hR2.things
    refine ⟨fun _ => rfl, fun j hj => ?_⟩
    have := hT2.2 j (by simp; omega)
    rwa [List.getElem_append_left hj] at this
  · have e := run_append_grow (P := Try.prog) (w.alloc (.cells #[.int .i64 x1, .int .i64 x2] 26)) 23 ty 26 i0 _ Try.underlying23 hi hz0 ⟨g', 0, none⟩ ts.length cap (cellsT ts) (by rw [hz1]; exact cellsT_len ts) (src_th hT _ rfl) ⟨w.heap.size, 0, none⟩ 1 1 (cellsT [(x1, x2)]) (by rw [hz1]; rfl) (src_th hnews _ rfl) (by omega) (by omega) (by rw [hz2]; exact growslice_fits (by omega) hb)
    rw [hv, e] at hr
    simp only [Result.ok.injEq] at hr
    rw [← hr.2]
    refine ⟨fun _ => rfl, fun j hj => ?_⟩
    have hlt : g' < (w.alloc (.cells #[.int .i64 x1, .int .i64 x2] 26)).heap.size := by rw [World.size_alloc]; omega
    have h := hT.2 j hj
    exact ⟨(World.cell?_of_block (a := ⟨g', 0 + j * 2, none⟩) (Below.heap_alloc (w.alloc _).drew _ g' hlt)).trans h.1, (World.cell?_of_block (a := ⟨g', 0 + j * 2 + 1, none⟩) (Below.heap_alloc (w.alloc _).drew _ g' hlt)).trans h.2⟩
end Go.Proofs.Ytnmaldgmlkcliaa
