/- The states of IndexLies' loops, and its calls whatever the key. -/
import Derived.Test.YtdpbjealjilogaaLC
namespace Go.Proofs.Ytdpbjealjilogaa.I
open Go.RowKit Go.Maps Go.Shelf Go.Proofs.Ytdpbjealjilogaa

theorem eql_seqf (g : Nat) (lb : Array Value) (w : World) : (binOp .eql 45 (.func (.func g) #[] lb) .nilFunc).run Try.prog w = .ok (.bool false) w := by kernel_rfl

theorem Turn.putObj1 (W : World) (D : Nat) (o : Obj) : Turn (fun k => k = D) W (W.putObj D o) := by
  have h := grownBy_putObj' W D o
  exact ⟨h.os, h.tape, h.output, h.size, fun k hk hn => h.block k hk (fun e => hn (by cases e; rfl))⟩
theorem no_bump {B : Nat} (W : World) (l : Nat) (o o' : Obj) (_ : B ≤ l) (h : W.heap[l]? = some o) (hc : o.isCells = false) (_ : o.isWalk = false) : Keep B (fun _ _ => False) W (W.putObj l o') := by
  have hg := grownBy_putObj' W l o'
  refine ⟨hg.size, fun k cs t f _ hk _ => (hg.block k (Array.getElem?_eq_some_iff.1 hk).1 (fun e => ?_)).trans hk, fun k hm => hm.elim⟩
  cases e; rw [hk] at h; simp only [Option.some.injEq] at h; subst h; simp [Obj.isCells] at hc

/-- What turned lies below B. -/
theorem turn_keep {B : Nat} {S : Nat → Prop} {W W' : World} (h : Turn S W W') (hb : ∀ k, S k → k < B) : Keep B (fun _ _ => False) W W' ∧ KeepsFrom B W W' :=
  ⟨⟨h.size, fun k cs t f hk hc _ => h.heap hc (fun e => by have := hb k e; omega), fun k hm => hm.elim⟩, ⟨h.size, fun k o hk hc _ => h.heap hc (fun e => by have := hb k e; omega)⟩⟩

theorem not_range {pre : List Nat} {n : Nat} (h : ∃ k, k ≤ n ∧ pre = List.range k) (hn : pre ≠ List.range pre.length) : False := by
  obtain ⟨k, _, rfl⟩ := h
  exact hn (by rw [List.length_range])

/-- The state of the loop that marks the places. -/
def FI (V X : World) (g Bn N : Nat) (L : List E) (pre : List Nat) : Prop := ∃ f, BoolsB X g f N ∧ Boxed X Bn 3 (.int .i64 (pre.length : Int)) ∧ Turn (fun k => k = g ∨ k = Bn) V X ∧ (pre = List.range pre.length → f = taken L pre.length)
theorem FI.own {V : World} {g Bn N : Nat} {L : List E} : OwnFrom V.heap.size (fun pre X => FI V X g Bn N L pre) := by
  intro pre W W' row h hg hr
  obtain ⟨f, h1, h2, h3, h4⟩ := h
  have ht : Turn (fun k => some k = row) W W' := ⟨hg.os, hg.tape, hg.output, hg.size, fun k hk hn => hg.block k hk hn⟩
  have hno : ∀ k, (∃ cs t f, W.heap[k]? = some (.cells cs t f)) → ¬ some k = row := fun k ⟨cs, t, f, hc⟩ e => by
    obtain ⟨_, o, ho, hic⟩ := hr k e.symm
    rw [hc] at ho; simp only [Option.some.injEq] at ho; subst ho; simp [Obj.isCells] at hic
  refine ⟨f, ht.heap h1 (hno _ ⟨_, _, _, h1⟩), ht.heap h2 (hno _ ⟨_, _, _, h2⟩), h3.then ht (fun k hk e => ?_), h4⟩
  have := (hr k e.symm).1; omega
theorem GI.own {V : World} : OwnFrom V.heap.size (fun (_ : List Nat) X => Stay V X) := by
  intro pre W W' row h hg hr
  have ht : Turn (fun k => some k = row) W W' := ⟨hg.os, hg.tape, hg.output, hg.size, fun k hk hn => hg.block k hk hn⟩
  exact ht.stay h (fun k hk e => by have := (hr k e.symm).1; omega)

section
variable {w W : World} {bt pb N len reach : Nat} {fp : Nat × Nat × Int} {cv : Value} {came : List E} {places : List Nat}

theorem there_dec (k : Int) : (∃ (t : Nat) (e : E), came[t]? = some e ∧ e.there = true ∧ sm fp e.key k = true) ∨ (∀ (t : Nat) (e : E), came[t]? = some e → e.there = true → sm fp e.key k = false) := by
  by_cases h : ∃ (t : Nat) (e : E), came[t]? = some e ∧ e.there = true ∧ sm fp e.key k = true
  · exact .inl h
  · refine .inr fun t e h1 h2 => ?_
    cases hs : sm fp e.key k with
    | false => rfl
    | true => exact (h ⟨t, e, h1, h2, hs⟩).elim

theorem lay_key (h : Tab w bt fp cv pb N len reach came places) (x : Nat) : KeyOk ((byPl (live came))[x]?.getD gap).key ∧ ((byPl (live came))[x]?.getD gap).place < N := by
  by_cases hx : x < (byPl (live came)).length
  · have := byPl_path h hx
    exact ⟨this.2.2.1, this.1⟩
  · rw [List.getElem?_eq_none (by omega)]
    have := h.eight
    exact ⟨by show KeyOk 0; unfold KeyOk; omega, by show 0 < N; omega⟩

theorem place_any (h : Tab w bt fp cv pb N len reach came places) (x : Nat) :
    Calls Try.prog 32 #[.pointer (some ⟨bt, 0, none⟩), .int .i64 (((byPl (live came))[x]?.getD gap).key)] w fun e' w' => ∃ (p : Nat) (ok : Bool), e' = .returned (.tuple #[.int .i64 (p : Int), .bool ok]) ∧ (x < (byPl (live came)).length → ok = true ∧ p = ((byPl (live came))[x]?.getD gap).place) ∧ ∃ n, w' = w.drewN n := by
  have hk := (lay_key h x).1
  by_cases hx : x < (byPl (live came)).length
  · obtain ⟨t, h1, h2⟩ := byPl_entry hx
    refine (place_yes h _ hk h1 h2 (sm_refl _ _)).mono ?_
    rintro e w' ⟨rfl, hn⟩
    exact ⟨_, _, rfl, fun _ => ⟨rfl, rfl⟩, hn⟩
  · rcases there_dec (came := came) (fp := fp) ((byPl (live came))[x]?.getD gap).key with ⟨t, e, h1, h2, h3⟩ | hno
    · refine (place_yes h _ hk h1 h2 h3).mono ?_
      rintro e w' ⟨rfl, hn⟩
      exact ⟨_, _, rfl, fun h => (hx h).elim, hn⟩
    · refine (place_no h _ hk hno).mono ?_
      rintro e w' ⟨rfl, hn⟩
      exact ⟨0, _, rfl, fun h => (hx h).elim, hn⟩

theorem probes_lay (h : Tab w bt fp cv pb N len reach came places) (x : Nat) :
    Calls Try.prog 33 #[.pointer (some ⟨bt, 0, none⟩), .int .i64 (((byPl (live came))[x]?.getD gap).key)] w fun e' w' => ∃ r : Nat, e' = .returned (.int .i64 (r : Int)) ∧ (x < (byPl (live came)).length → r = dist N (hf fp ((byPl (live came))[x]?.getD gap).key % N) ((byPl (live came))[x]?.getD gap).place + 1) ∧ ∃ n, w' = w.drewN n := by
  refine (probes_any h _ (lay_key h x).1).mono ?_
  rintro e w' ⟨r, hE, rfl, hn⟩
  refine ⟨_, rfl, fun hx => ?_, hn⟩
  obtain ⟨t, h1, h2⟩ := byPl_entry hx
  rw [(h.ends_yes hE h1 h2 (sm_refl _ _)).1]

theorem get_any (h : Tab w bt fp cv pb N len reach came places) (k : Int) (hk : KeyOk k) :
    Calls Try.prog 34 #[.pointer (some ⟨bt, 0, none⟩), .int .i64 k] w fun e' w' => ∃ (v : Int) (ok : Bool), e' = .returned (.tuple #[.int .i64 v, .bool ok]) ∧ (ok = false → ∀ (t : Nat) (e : E), came[t]? = some e → e.there = true → sm fp e.key k = false) ∧ ∃ n, w' = w.drewN n := by
  rcases there_dec (came := came) (fp := fp) k with ⟨t, e, h1, h2, h3⟩ | hno
  · refine (get_yes h _ hk h1 h2 h3).mono ?_
    rintro e w' ⟨rfl, hn⟩
    exact ⟨_, true, rfl, fun h => by simp at h, hn⟩
  · refine (get_no h _ hk hno).mono ?_
    rintro e w' ⟨rfl, hn⟩
    exact ⟨_, false, rfl, fun _ => hno, hn⟩

/-- There is an empty place, and from the home on all ahead of the first one are taken. -/
theorem Tab.first_free (h : Tab w bt fp cv pb N len reach came places) (home : Nat) (hh : home < N) : ∃ z, z < N ∧ taken (byPl (live came)) (byPl (live came)).length z = false ∧ ∀ q, q < N → dist N home q < dist N home z → taken (byPl (live came)) (byPl (live came)).length q = true := by
  have hex : ∃ d, ∃ z, z < N ∧ dist N home z = d ∧ taken (byPl (live came)) (byPl (live came)).length z = false := by
    apply Classical.byContradiction
    intro hno
    have hz : zeros places = 0 := by
      have := path_few hh N places h.lies.len (Nat.le_refl _) (fun q hq _ => by
        cases ht : taken (byPl (live came)) (byPl (live came)).length q with
        | false => exact (hno ⟨_, q, hq, rfl, ht⟩).elim
        | true => exact (taken_all h).1 ht)
      omega
    have := h.zer
    have := h.few
    have := h.eight
    omega
  obtain ⟨d, hd, hmin⟩ : ∃ d, (∃ z, z < N ∧ dist N home z = d ∧ taken (byPl (live came)) (byPl (live came)).length z = false) ∧ ∀ d', d' < d → ¬ ∃ z, z < N ∧ dist N home z = d' ∧ taken (byPl (live came)) (byPl (live came)).length z = false := by
    obtain ⟨d, hd⟩ := hex
    induction d using Nat.strongRecOn with
    | _ d ih =>
      by_cases hm : ∀ d', d' < d → ¬ ∃ z, z < N ∧ dist N home z = d' ∧ taken (byPl (live came)) (byPl (live came)).length z = false
      · exact ⟨d, hd, hm⟩
      · obtain ⟨d', hm⟩ := Classical.not_forall.1 hm
        obtain ⟨hlt, hm⟩ := Classical.not_imp.1 hm
        exact ih d' hlt (Classical.not_not.1 hm)
  obtain ⟨z, hz, rfl, ht⟩ := hd
  refine ⟨z, hz, ht, fun q hq hlt => ?_⟩
  cases hq' : taken (byPl (live came)) (byPl (live came)).length q with
  | true => rfl
  | false => exact (hmin _ hlt ⟨q, hq, rfl, hq'⟩).elim

/-- The first empty place is one. -/
theorem free_same {N home z r : Nat} (hh : home < N) (hz : z < N) (hr : r < N) {f : Nat → Bool} (h1 : f z = false) (h2 : ∀ q, q < N → dist N home q < dist N home z → f q = true) (k1 : f r = false) (k2 : ∀ q, q < N → dist N home q < dist N home r → f q = true) : r = z := by
  apply dist_inj hh hr hz
  rcases Nat.lt_trichotomy (dist N home r) (dist N home z) with h | h | h
  · rw [h2 r hr h] at k1; simp at k1
  · exact h
  · rw [k2 z hz h] at h1; simp at h1

theorem dist_sum {N a b c : Nat} (ha : a < N) (hb : b < N) (hc : c < N) (hne : b ≠ c) (h : dist N a b + dist N b c = dist N a c) : dist N a (nx N b) = dist N a b + 1 ∧ dist N b c = dist N (nx N b) c + 1 ∧ dist N a (nx N b) + dist N (nx N b) c = dist N a c := by
  have h1 := dist_nx hb hc hne
  have h2 := dist_step ha hb hc (by omega)
  omega
end

/-- The end of a function with two loops over functions. -/
theorem gi_end2 (W : World) (D D2 Bq : Nat) (w : World) (h1 : W.heap[D]? = some (.deferred (some []))) (h2 : W.heap[D2]? = some (.deferred (some []))) (n1 : D ≠ D2) {v : Value} (hc : W.cell? ⟨Bq, 0, none⟩ = some v) (hB : Stay w W) (hd : w.heap.size ≤ D) (hd2 : w.heap.size ≤ D2) :
    W.heap[D2]? = some (.deferred (some [])) ∧ (W.putObj D2 (.deferred none)).heap[D]? = some (.deferred (some [])) ∧
      ((W.putObj D2 (.deferred none)).putObj D (.deferred none)).cell? ⟨Bq, 0, none⟩ = some v ∧ Stay w ((W.putObj D2 (.deferred none)).putObj D (.deferred none)) := by
  have t1 := Turn.putObj1 W D2 (.deferred none)
  have t2 := Turn.putObj1 (W.putObj D2 (.deferred none)) D (.deferred none)
  have b1 : Bq ≠ D := fun e => by subst e; simp [World.cell?, h1] at hc
  have b2 : Bq ≠ D2 := fun e => by subst e; simp [World.cell?, h2] at hc
  exact ⟨h2, t1.heap h1 n1, t2.cell (t1.cell hc b2) b1, t2.stay (t1.stay hB (fun k hk e => by omega)) (fun k hk e => by omega)⟩
end Go.Proofs.Ytdpbjealjilogaa.I
