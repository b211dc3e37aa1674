/- A lookup in memory: its box, its table, its lists of places; what only reads. -/
import Derived.Test.YtnhmjheipfopoaaL4c
namespace Go.Proofs.Ytnhmjheipfopoaa.L
open Go.RowKit Go.Maps Go.Proofs.Ytnhmjheipfopoaa

/-- Lists of places in an array, each in memory of its own. -/
structure LsI (W : World) (lv : Value) (vs : List Value) (ls : List (List Nat)) : Prop where
  own : W.ownsRow 0 23 1 lv vs.length vs
  len : vs.length = ls.length
  each : ∀ (i : Nat) (v : Value) (ps : List Nat), vs[i]? = some v → ls[i]? = some ps → OwnI 0 W v (ps.map Int.ofNat)

/-- The parts of a lookup, by numbers: 0 its box, 1 its table, 2 the table's keys, 3 the array of lists, 4 and more the lists. -/
structure Parts (kd : Nat → Nat) (xb tb pb : Nat) (cv : Value) (fp : List LK) (lv : Value) (vs : List Value) : Prop where
  box : kd xb = 0
  tab : ∀ k, foot tb pb cv k → kd k = 1
  keys : ∀ k, fnfoot fp k → kd k = 2
  arr : ∀ k, lv.ownBlock = some k → kd k = 3
  lists : ∀ (i : Nat) (v : Value) k, vs[i]? = some v → v.ownBlock = some k → kd k = 4 + i

structure Lk (W : World) (F : Nat → Prop) (xb c : Nat) (T : List (List Int)) (tb : Nat) (fp : List LK) (cv : Value) (pb N len reach : Nat) (came : List E) (places : List Nat) (lv : Value) (vs : List Value) (ls : List (List Nat)) (kd : Nat → Nat) : Prop where
  box : W.heap[xb]? = some (.cells #[.int .u16 c, .pointer (some ⟨tb, 0, none⟩), lv] 97 (0, 0))
  tab : Tab W tb fp cv pb N len reach came places
  lst : LsI W lv vs ls
  cont : Cont c T came ls
  parts : Parts kd xb tb pb cv fp lv vs
  own : F xb ∧ (∀ k, foot tb pb cv k → F k) ∧ (∀ k, fnfoot fp k → F k) ∧ (∀ k, lv.ownBlock = some k → F k) ∧ ∀ (i : Nat) (v : Value) k, vs[i]? = some v → v.ownBlock = some k → F k
  lt : ∀ k, F k → k < W.heap.size
  col : c < 65536
  wide : ∀ t ∈ T, Lib.bitLen c ≤ t.length

/-- At block xb lies a lookup by the columns c, of the tuples T; all its blocks are in F. -/
def LkS (W : World) (F : Nat → Prop) (xb c : Nat) (T : List (List Int)) : Prop := ∃ tb fp cv pb N len reach came places lv vs ls kd, Lk W F xb c T tb fp cv pb N len reach came places lv vs ls kd

section
variable {W W' : World} {F : Nat → Prop} {xb c : Nat} {T : List (List Int)} {tb : Nat} {fp : List LK} {cv : Value} {pb N len reach : Nat} {came : List E} {places : List Nat} {lv : Value} {vs : List Value} {ls : List (List Nat)} {kd : Nat → Nat}

theorem ownI_turn {S : Nat → Prop} {base : Nat} {v : Value} {zs : List Int} (h : OwnI base W v zs) (ht : Turn S W W') (hn : ∀ k, v.ownBlock = some k → ¬ S k) : OwnI base W' v zs := ht.row h hn

theorem LsI.turn {S : Nat → Prop} (h : LsI W lv vs ls) (ht : Turn S W W') (ha : ∀ k, lv.ownBlock = some k → ¬ S k) (hv : ∀ (i : Nat) (v : Value) k, vs[i]? = some v → v.ownBlock = some k → ¬ S k) : LsI W' lv vs ls :=
  ⟨ht.row h.own ha, h.len, fun i v ps h1 h2 => ownI_turn (h.each i v ps h1 h2) ht (fun k hk => hv i v k h1 hk)⟩

theorem Lk.turn {S : Nat → Prop} (h : Lk W F xb c T tb fp cv pb N len reach came places lv vs ls kd) (ht : Turn S W W') (hn : ∀ k, F k → ¬ S k) : Lk W' F xb c T tb fp cv pb N len reach came places lv vs ls kd :=
  { h with
    box := ht.heap h.box (hn _ h.own.1)
    tab := h.tab.turn ht (fun k hk => hn k (h.own.2.1 k hk)) (fun k hk => hn k (h.own.2.2.1 k hk))
    lst := h.lst.turn ht (fun k hk => hn k (h.own.2.2.2.1 k hk)) (fun i v k h1 h2 => hn k (h.own.2.2.2.2 i v k h1 h2))
    lt := fun k hk => Nat.lt_of_lt_of_le (h.lt k hk) ht.size }

theorem LkS.turn {S : Nat → Prop} (h : LkS W F xb c T) (ht : Turn S W W') (hn : ∀ k, F k → ¬ S k) : LkS W' F xb c T := by
  obtain ⟨tb, fp, cv, pb, N, len, reach, came, places, lv, vs, ls, kd, h⟩ := h
  exact ⟨_, _, _, _, _, _, _, _, _, _, _, _, _, h.turn ht hn⟩
theorem LkS.stay (h : LkS W F xb c T) (ht : Stay W W') : LkS W' F xb c T := h.turn (S := fun _ => False) (Turn.of_stay ht) (fun _ _ e => e)
theorem Lk.stay (h : Lk W F xb c T tb fp cv pb N len reach came places lv vs ls kd) (ht : Stay W W') : Lk W' F xb c T tb fp cv pb N len reach came places lv vs ls kd := h.turn (S := fun _ => False) (Turn.of_stay ht) (fun _ _ e => e)
theorem LkS.grow {F' : Nat → Prop} (h : LkS W F xb c T) (hF : ∀ k, F k → F' k) (hl : ∀ k, F' k → k < W.heap.size) : LkS W F' xb c T := by
  obtain ⟨tb, fp, cv, pb, N, len, reach, came, places, lv, vs, ls, kd, h⟩ := h
  exact ⟨_, _, _, _, _, _, _, _, _, _, _, _, _, { h with own := ⟨hF _ h.own.1, fun k hk => hF k (h.own.2.1 k hk), fun k hk => hF k (h.own.2.2.1 k hk), fun k hk => hF k (h.own.2.2.2.1 k hk), fun i v k h1 h2 => hF k (h.own.2.2.2.2 i v k h1 h2)⟩, lt := hl }⟩

theorem Lk.c0 (h : Lk W F xb c T tb fp cv pb N len reach came places lv vs ls kd) : W.cell? ⟨xb, 0, none⟩ = some (.int .u16 c) := by simp [World.cell?, h.box]
theorem Lk.c1 (h : Lk W F xb c T tb fp cv pb N len reach came places lv vs ls kd) : W.cell? ⟨xb, 1, none⟩ = some (.pointer (some ⟨tb, 0, none⟩)) := by simp [World.cell?, h.box]
theorem Lk.c2 (h : Lk W F xb c T tb fp cv pb N len reach came places lv vs ls kd) : W.cell? ⟨xb, 2, none⟩ = some lv := by simp [World.cell?, h.box]
theorem Lk.free (h : Lk W F xb c T tb fp cv pb N len reach came places lv vs ls kd) (k : Nat) : W.frozen? ⟨xb, k, none⟩ = false := by simp [World.frozen?, h.box]

/-- A list that lies in memory, as a key that is asked for. -/
theorem Lk.ask (h : Lk W F xb c T tb fp cv pb N len reach came places lv vs ls kd) (k : LK) (hk : IntsS W k.a k.b k.off k.l) (hl : k.l.length ≤ maxLen) (hn : 0 < k.l.length → ¬ F k.b) : Tab W tb (k :: fp) cv pb N len reach came places :=
  h.tab.more k hk hl (fun h0 hf => hn h0 (h.own.2.1 _ hf))

theorem Lk.no (h : Lk W F xb c T tb fp cv pb N len reach came places lv vs ls kd) {k : LK} (h0 : plc c T k.l = []) : ∀ (t : Nat) (e : E), came[t]? = some e → e.there = true → sm (k :: fp) e.key k = false := by
  intro t e he _
  have := (h.cont.none_iff k.l).1 h0 t e he
  simp [sm, this]

/-- Of a lookup the keys that came, one by one. -/
theorem Lk.yes (h : Lk W F xb c T tb fp cv pb N len reach came places lv vs ls kd) {k : LK} (h0 : plc c T k.l ≠ []) : ∃ (t : Nat) (e : E), came[t]? = some e ∧ e.there = true ∧ sm (k :: fp) e.key k = true ∧ Holds ls e.val (plc c T k.l) ∧ e.key.l = k.l := by
  obtain ⟨t, e, he, hk⟩ := h.cont.all _ h0
  exact ⟨t, e, he, h.cont.there t e he, by simp [sm, hk], by rw [← hk]; exact h.cont.val t e he, hk⟩

set_option maxRecDepth 100000 in
/-- only: what stands by a key. -/
theorem only_no (h : Lk W F xb c T tb fp cv pb N len reach came places lv vs ls kd) (k : LK) (hk : IntsS W k.a k.b k.off k.l) (hl : k.l.length ≤ maxLen) (hn : 0 < k.l.length → ¬ F k.b) (h0 : plc c T k.l = []) :
    Calls Try.prog 60 #[.pointer (some ⟨xb, 0, none⟩), k.v] W fun e w' => e = .returned (.tuple #[.int .i64 0, .bool false]) ∧ Stay W w' := by
  have hg := get_no (h.ask k hk hl hn) k (List.mem_cons_self ..) (h.no h0)
  have c1 := h.c1
  clear h hk
  go_enter Try.func60, Try.ntmps60
  go_wp2_with (go_at_call 62; refine hg.mono ?_; rintro e w9 ⟨rfl, hs⟩; have HS : Hid (Stay W w9) := hs; clear hs)
  go_ret2
  exact ⟨rfl, HS.out⟩

set_option maxRecDepth 100000 in
theorem only_yes (h : Lk W F xb c T tb fp cv pb N len reach came places lv vs ls kd) (k : LK) (hk : IntsS W k.a k.b k.off k.l) (hl : k.l.length ≤ maxLen) (hn : 0 < k.l.length → ¬ F k.b) {p : Nat} (h0 : plc c T k.l = [p]) :
    Calls Try.prog 60 #[.pointer (some ⟨xb, 0, none⟩), k.v] W fun e w' => e = .returned (.tuple #[.int .i64 p, .bool true]) ∧ Stay W w' := by
  obtain ⟨t, e, he, hth, hs, hH, _⟩ := h.yes (k := k) (by rw [h0]; simp)
  have hv : e.val = p := by
    rcases hH with ⟨q, h1, h2⟩ | ⟨j, _, _, h2⟩
    · rw [h0] at h2
      simp only [List.cons.injEq, and_true] at h2
      rw [h1, h2]
    · rw [h0] at h2; simp at h2
  have hg := get_yes (h.ask k hk hl hn) k (List.mem_cons_self ..) he hth hs
  rw [hv] at hg
  have c1 := h.c1
  clear h hk
  go_enter Try.func60, Try.ntmps60
  go_wp2_with (go_at_call 62; refine hg.mono ?_; rintro e w9 ⟨rfl, hs⟩; have HS : Hid (Stay W w9) := hs; clear hs)
  go_ret2
  exact ⟨rfl, HS.out⟩

/-- keys: how many unlike keys came. -/
theorem keys_any (h : Lk W F xb c T tb fp cv pb N len reach came places lv vs ls kd) : Calls Try.prog 45 #[.pointer (some ⟨xb, 0, none⟩)] W fun e w' => e = .returned (.int .i64 (len : Int)) ∧ w' = W := by
  have hg := len_yes h.tab
  have c1 := h.c1
  clear h
  go_enter Try.func45, Try.ntmps45
  go_wp2_with (go_at_call 64; refine hg.mono ?_; rintro e w9 ⟨rfl, hw⟩; have hw' := hw.symm; subst hw')
  go_ret
  exact ⟨rfl, rfl⟩
end
end Go.Proofs.Ytnhmjheipfopoaa.L
