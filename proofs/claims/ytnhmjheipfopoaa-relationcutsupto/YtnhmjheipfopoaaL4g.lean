/- join: a tuple's place is laid by its key. The first one with its key. -/
import Derived.Test.YtnhmjheipfopoaaL4f
namespace Go.Proofs.Ytnhmjheipfopoaa.L
open Go.RowKit Go.Maps Go.Proofs.Ytnhmjheipfopoaa

/-- A list of its own, as a key. -/
theorem own_key {base : Nat} {w : World} {v : Value} {zs : List Int} (h : OwnI base w v zs) (hl : zs.length ≤ maxLen) : ∃ k : LK, v = k.v ∧ k.l = zs ∧ IntsS w k.a k.b k.off k.l ∧ k.l.length ≤ maxLen ∧ (0 < k.l.length → base ≤ k.b ∧ k.b < w.heap.size) := by
  obtain ⟨a, b, c, rfl, hI⟩ := h.ints
  refine ⟨⟨a, b, 0, c, zs⟩, rfl, rfl, hI, hl, fun h0 => ⟨?_, ints_lt hI h0⟩⟩
  have ha := hI.1 h0
  rcases h.2 with ⟨hx, _⟩ | ⟨g, c2, cur, hx, hb, _⟩
  · rw [ha] at hx; simp at hx
  · rw [ha] at hx
    simp only [Value.slice.injEq, Option.some.injEq, Addr.mk.injEq, and_true] at hx
    rw [hx.1]; exact hb

theorem own_at {base : Nat} {w : World} {v : Value} {n : Nat} {t : TypeId} {xs : List Value} {k : Nat} (h : w.ownsRow base t 1 v n xs) (hk : v.ownBlock = some k) : k < w.heap.size := by
  rcases h.2 with ⟨rfl, _⟩ | ⟨g, c2, cur, rfl, hb, hh, _⟩
  · simp [Value.ownBlock] at hk
  · simp only [Value.ownBlock, Option.some.injEq] at hk
    subst hk; exact (Array.getElem?_eq_some_iff.1 hh).1

/-- F, and all that is new since there were base blocks. -/
def Grow (F : Nat → Prop) (base : Nat) (w' : World) (k : Nat) : Prop := F k ∨ (base ≤ k ∧ k < w'.heap.size)

section
variable {W W' : World} {F : Nat → Prop} {xb c : Nat} {T : List (List Int)} {tb : Nat} {fp : List LK} {cv : Value} {pb N len reach : Nat} {came : List E} {places : List Nat} {lv : Value} {vs : List Value} {ls : List (List Nat)} {kd : Nat → Nat}

theorem Lk.lvlt (h : Lk W F xb c T tb fp cv pb N len reach came places lv vs ls kd) (k : Nat) (hk : lv.ownBlock = some k) : k < W.heap.size := h.lt _ (h.own.2.2.2.1 k hk)

/-- Behind the Put of a first tuple. -/
theorem Lk.first (h : Lk W F xb c T tb fp cv pb N len reach came places lv vs ls kd) {base : Nat} (hb : base ≤ W.heap.size) {k : LK} {t : List Int} (hk : k.l = cutL t c) (hno : plc c T k.l = []) (hkb : 0 < k.l.length → base ≤ k.b ∧ k.b < W.heap.size) (hFb : ∀ j, F j → j < base) (ht : Lib.bitLen c ≤ t.length)
    (A : Added W tb (k :: fp) cv pb N len came k (T.length : Int) W') : LkS W' (Grow F base W') xb c (T ++ [t]) ∧ Turn F W W' := by
  obtain ⟨cv', pb', reach', came', places', hT, hS, hTn, hft⟩ := A
  have hTF : Turn F W W' := hTn.mono (fun i _ hi => h.own.2.1 i hi)
  have hsz := hTn.size
  have hkF : 0 < k.l.length → ¬ F k.b := fun h0 hf => by have := hFb _ hf; have := hkb h0; omega
  have hkN : ∀ j, F j → ¬ (0 < k.l.length ∧ j = k.b) := fun j hf q => hkF q.1 (q.2 ▸ hf)
  have hfn : ∀ j, fnfoot (k :: fp) j → fnfoot fp j ∨ (0 < k.l.length ∧ j = k.b) := by
    rintro j ⟨y, hy, h0, rfl⟩
    rcases List.mem_cons.1 hy with rfl | hy
    · exact .inr ⟨h0, rfl⟩
    · exact .inl ⟨y, hy, h0, rfl⟩
  refine ⟨⟨tb, k :: fp, cv', pb', _, len + 1, reach', came', places', lv, vs, ls, fun j => if j < W.heap.size then (if 0 < k.l.length ∧ j = k.b then 2 else kd j) else 1, ?_, hT, ?_, (h.cont.first hk hno _).sim hS, ⟨?_, ?_, ?_, ?_, ?_⟩, ⟨?_, ?_, ?_, ?_, ?_⟩, ?_, h.col, ?_⟩, hTF⟩
  · refine hTn.heap h.box (fun hf => ?_)
    have := h.parts.tab _ hf
    rw [h.parts.box] at this; omega
  · refine h.lst.turn hTn (fun j hj hf => ?_) (fun i v j h1 h2 hf => ?_)
    · have := h.parts.tab _ hf; rw [h.parts.arr j hj] at this; omega
    · have := h.parts.tab _ hf; rw [h.parts.lists i v j h1 h2] at this; omega
  · have hl := h.lt _ h.own.1
    show (if xb < W.heap.size then (if 0 < k.l.length ∧ xb = k.b then 2 else kd xb) else 1) = 0
    rw [if_pos hl, if_neg (hkN _ h.own.1), h.parts.box]
  · intro j hj
    show (if j < W.heap.size then (if 0 < k.l.length ∧ j = k.b then 2 else kd j) else 1) = 1
    rcases hft j hj with hf | hf
    · rw [if_pos (h.lt _ (h.own.2.1 j hf)), if_neg (hkN _ (h.own.2.1 j hf)), h.parts.tab j hf]
    · rw [if_neg (by omega)]
  · intro j hj
    show (if j < W.heap.size then (if 0 < k.l.length ∧ j = k.b then 2 else kd j) else 1) = 2
    rcases hfn j hj with hf | ⟨h0, rfl⟩
    · rw [if_pos (h.lt _ (h.own.2.2.1 j hf)), if_neg (hkN _ (h.own.2.2.1 j hf)), h.parts.keys j hf]
    · rw [if_pos (hkb h0).2, if_pos ⟨h0, rfl⟩]
  · intro j hj
    show (if j < W.heap.size then (if 0 < k.l.length ∧ j = k.b then 2 else kd j) else 1) = 3
    have hf := h.own.2.2.2.1 j hj
    rw [if_pos (h.lt _ hf), if_neg (hkN _ hf), h.parts.arr j hj]
  · intro i v j h1 h2
    show (if j < W.heap.size then (if 0 < k.l.length ∧ j = k.b then 2 else kd j) else 1) = 4 + i
    have hf := h.own.2.2.2.2 i v j h1 h2
    rw [if_pos (h.lt _ hf), if_neg (hkN _ hf), h.parts.lists i v j h1 h2]
  · exact .inl h.own.1
  · intro j hj
    rcases hft j hj with hf | hf
    · exact .inl (h.own.2.1 j hf)
    · exact .inr ⟨by omega, hT.lt j (.inl hj)⟩
  · intro j hj
    rcases hfn j hj with hf | ⟨h0, rfl⟩
    · exact .inl (h.own.2.2.1 j hf)
    · have := hkb h0; exact .inr ⟨this.1, by omega⟩
  · intro j hj; exact .inl (h.own.2.2.2.1 j hj)
  · intro i v j h1 h2; exact .inl (h.own.2.2.2.2 i v j h1 h2)
  · rintro j (hf | hf)
    · have := h.lt j hf; omega
    · exact hf.2
  · intro t' ht'
    rcases List.mem_append.1 ht' with h1 | h1
    · exact h.wide t' h1
    · rw [List.mem_singleton.1 h1]; exact ht

set_option maxRecDepth 100000 in
set_option maxHeartbeats 1000000 in
theorem join_first (h : Lk W F xb c T tb fp cv pb N len reach came places lv vs ls kd) (hT : T.length + 1 ≤ 68719476736) (a : Option Addr) (b o cap : Nat) (t : List Int) (hI : IntsS W a b o t) (hl : t.length ≤ maxLen) (hw : Lib.bitLen c ≤ t.length) (h0 : plc c T (cutL t c) = []) :
    Calls Try.prog 43 #[.pointer (some ⟨xb, 0, none⟩), .slice a t.length cap, .int .i64 T.length] W fun e w' => e = .returned (.tuple #[]) ∧ LkS w' (Grow F W.heap.size w') xb c (T ++ [t]) ∧ Turn F W w' := by
  have hcut := cut_any W a b o cap c t hI hl h.col hw
  have hcl : (cutL t c).length ≤ maxLen := by
    have := cols_len c 16
    unfold cutL maxLen; rw [List.length_map]; omega
  have c0 := h.c0
  have c1 := h.c1
  have HH : Hid (Lk W F xb c T tb fp cv pb N len reach came places lv vs ls kd) := h
  clear h hI
  go_enter Try.func43, Try.ntmps43
  go_wp2_with fail
  refine hcut.mono ?_
  rintro e w1 ⟨v, rfl, hown, hs1⟩
  obtain ⟨k, rfl, hk, hIk, hkl, hkb⟩ := own_key hown hcl
  have h1 := HH.out.stay hs1
  have hg := get_no (h1.ask k hIk hkl (fun q hf => by have := HH.out.lt _ hf; have := (hkb q).1; omega)) k (List.mem_cons_self ..) (h1.no (by rw [hk]; exact h0))
  have c1' := hs1.cell c1
  have HK : Hid (k.l = cutL t c ∧ IntsS w1 k.a k.b k.off k.l ∧ k.l.length ≤ maxLen ∧ (0 < k.l.length → W.heap.size ≤ k.b ∧ k.b < w1.heap.size) ∧ Stay W w1 ∧ plc c T k.l = []) := ⟨hk, hIk, hkl, hkb, hs1, by rw [hk]; exact h0⟩
  clear hcut hown hs1 hk hIk hkl hkb h1 c0 c1 h0
  go_wp2_with fail
  refine hg.mono ?_
  rintro e w2 ⟨rfl, hs2⟩
  have H2 : Hid (Stay w1 w2) := hs2
  have c1'' := hs2.cell c1'
  clear hg hs2 c1'
  have hput : Calls Try.prog 63 #[.pointer (some ⟨tb, 0, none⟩), k.v, .int .i64 T.length] w2 fun e' w' => e' = .returned (.tuple #[.int .i64 0, .bool false, .int .i64 0]) ∧ LkS w' (Grow F W.heap.size w') xb c (T ++ [t]) ∧ Turn F W w' := by
    obtain ⟨hk, hIk, hkl, hkb, hs1, h0⟩ := HK.out
    have hsW := hs1.trans H2.out
    have h2 := HH.out.stay hsW
    have hask := h2.ask k (hIk.stay H2.out) hkl (fun q hf => by have := HH.out.lt _ hf; have := (hkb q).1; omega)
    refine (put_new hask k (List.mem_cons_self ..) T.length (h2.no h0) (by have := h2.cont.few; omega)).mono ?_
    rintro e w3 ⟨rfl, hA⟩
    obtain ⟨r1, r2⟩ := h2.first (base := W.heap.size) hsW.size hk h0 (fun q => ⟨(hkb q).1, Nat.lt_of_lt_of_le (hkb q).2 H2.out.size⟩) HH.out.lt hw hA
    exact ⟨rfl, r1, (Turn.of_stay hsW).trans r2⟩
  clear HK
  go_wp2_with fail
  refine hput.mono ?_
  rintro e w3 ⟨rfl, hr⟩
  have HR : Hid _ := hr
  clear hput hr
  go_wp2
  go_end0
  exact ⟨rfl, HR.out⟩
end
end Go.Proofs.Ytnhmjheipfopoaa.L
