/- join, while some list of places is gone through: the first tuple with its key. join, while some list of places is gone through: the second tuple with its key. -/
import Derived.Test.YtnhmjheipfopoaaL7e
namespace Go.Proofs.Ytnhmjheipfopoaa.L
open Go.RowKit Go.Maps Go.Proofs.Ytnhmjheipfopoaa

/-- A lookup's block k is not written below n. -/
def Sk (xb tb pb : Nat) (cv lv : Value) (vs : List Value) (ls : List (List Nat)) (k n : Nat) : Prop :=
  k ≠ xb ∧ ¬ foot tb pb cv k ∧ lv.ownBlock ≠ some k ∧ ∀ (i : Nat) (v : Value) (ps : List Nat), vs[i]? = some v → ls[i]? = some ps → v.ownBlock = some k → n ≤ ps.length
/-- A lookup, a list of places being gone through. -/
def LkN (W : World) (F : Nat → Prop) (xb c : Nat) (T : List (List Int)) (k n : Nat) : Prop := ∃ tb fp cv pb N len reach came places lv vs ls kd, Lk W F xb c T tb fp cv pb N len reach came places lv vs ls kd ∧ Sk xb tb pb cv lv vs ls k n
/-- The cells of block k below n stay. -/
def KeepC (k n : Nat) (W W' : World) : Prop := ∀ j, j < n → W'.cell? ⟨k, j, none⟩ = W.cell? ⟨k, j, none⟩
theorem KeepC.trans {k n : Nat} {A B C : World} (h : KeepC k n A B) (g : KeepC k n B C) : KeepC k n A C := fun j hj => (g j hj).trans (h j hj)
theorem KeepC.turn {k n : Nat} {A B : World} {S : Nat → Prop} (h : Turn S A B) (hk : k < A.heap.size) (hn : ¬ S k) : KeepC k n A B := fun _ _ => World.cell?_of_block (h.block k hk hn)
theorem KeepC.stay {k n : Nat} {A B : World} (h : Stay A B) (hk : k < A.heap.size) : KeepC k n A B := KeepC.turn (S := fun _ => False) (Turn.of_stay h) hk (fun e => e)

section
variable {W W' : World} {F : Nat → Prop} {xb c : Nat} {T : List (List Int)} {k n : Nat}
theorem LkN.lk (h : LkN W F xb c T k n) : LkS W F xb c T := by
  obtain ⟨tb, fp, cv, pb, N, len, reach, came, places, lv, vs, ls, kd, h, _⟩ := h
  exact ⟨_, _, _, _, _, _, _, _, _, _, _, _, _, h⟩
theorem LkN.turn {S : Nat → Prop} (h : LkN W F xb c T k n) (ht : Turn S W W') (hn : ∀ k, F k → ¬ S k) : LkN W' F xb c T k n := by
  obtain ⟨tb, fp, cv, pb, N, len, reach, came, places, lv, vs, ls, kd, h, hs⟩ := h
  exact ⟨_, _, _, _, _, _, _, _, _, _, _, _, _, h.turn ht hn, hs⟩
theorem LkN.stay (h : LkN W F xb c T k n) (ht : Stay W W') : LkN W' F xb c T k n := h.turn (S := fun _ => False) (Turn.of_stay ht) (fun _ _ e => e)
theorem LkN.grow {F' : Nat → Prop} (h : LkN W F xb c T k n) (hF : ∀ k, F k → F' k) (hl : ∀ k, F' k → k < W.heap.size) : LkN W F' xb c T k n := by
  obtain ⟨tb, fp, cv, pb, N, len, reach, came, places, lv, vs, ls, kd, h, hs⟩ := h
  exact ⟨_, _, _, _, _, _, _, _, _, _, _, _, _, { h with own := ⟨hF _ h.own.1, fun k hk => hF k (h.own.2.1 k hk), fun k hk => hF k (h.own.2.2.1 k hk), fun k hk => hF k (h.own.2.2.2.1 k hk), fun i v k h1 h2 => hF k (h.own.2.2.2.2 i v k h1 h2)⟩, lt := hl }, hs⟩
/-- What is gone through is none of the lookup's blocks. -/
theorem LkN.far (h : LkS W F xb c T) (hk : ¬ F k) : LkN W F xb c T k n := by
  obtain ⟨tb, fp, cv, pb, N, len, reach, came, places, lv, vs, ls, kd, h⟩ := h
  exact ⟨_, _, _, _, _, _, _, _, _, _, _, _, _, h, fun e => hk (e ▸ h.own.1), fun e => hk (h.own.2.1 k e), fun e => hk (h.own.2.2.2.1 k e), fun i v ps h1 _ h3 => absurd (h.own.2.2.2.2 i v k h1 h3) hk⟩
end

section
variable {W W' : World} {F : Nat → Prop} {xb c : Nat} {T : List (List Int)} {tb : Nat} {fp : List LK} {cv : Value} {pb N len reach : Nat} {came : List E} {places : List Nat} {lv : Value} {vs : List Value} {ls : List (List Nat)} {kd : Nat → Nat}

/-- Behind the Put of a first tuple. -/
theorem Lk.firstN {k0 n0 : Nat} (hk0 : k0 < W.heap.size) (hs0 : Sk xb tb pb cv lv vs ls k0 n0) (h : Lk W F xb c T tb fp cv pb N len reach came places lv vs ls kd) {base : Nat} (hb : base ≤ W.heap.size) {k : LK} {t : List Int} (hk : k.l = cutL t c) (hno : plc c T k.l = []) (hkb : 0 < k.l.length → base ≤ k.b ∧ k.b < W.heap.size) (hFb : ∀ j, F j → j < base) (ht : Lib.bitLen c ≤ t.length)
    (A : Added W tb (k :: fp) cv pb N len came k (T.length : Int) W') : LkN W' (Grow F base W') xb c (T ++ [t]) k0 n0 ∧ Turn F W W' ∧ KeepC k0 n0 W W' := by
  obtain ⟨cv', pb', reach', came', places', hT, hS, hTn, hft⟩ := A
  have hTF : Turn F W W' := hTn.mono (fun i _ hi => h.own.2.1 i hi)
  have hsz := hTn.size
  have hkF : 0 < k.l.length → ¬ F k.b := fun h0 hf => by have := hFb _ hf; have := hkb h0; omega
  have hkN : ∀ j, F j → ¬ (0 < k.l.length ∧ j = k.b) := fun j hf q => hkF q.1 (q.2 ▸ hf)
  have hfn : ∀ j, fnfoot (k :: fp) j → fnfoot fp j ∨ (0 < k.l.length ∧ j = k.b) := by
    rintro j ⟨y, hy, h0, rfl⟩
    rcases List.mem_cons.1 hy with rfl | hy
    · exact .inr ⟨h0, rfl⟩
    · exact .inl ⟨y, hy, h0, rfl⟩
  refine ⟨⟨tb, k :: fp, cv', pb', _, len + 1, reach', came', places', lv, vs, ls, fun j => if j < W.heap.size then (if 0 < k.l.length ∧ j = k.b then 2 else kd j) else 1, ⟨?_, hT, ?_, (h.cont.first hk hno _).sim hS, ⟨?_, ?_, ?_, ?_, ?_⟩, ⟨?_, ?_, ?_, ?_, ?_⟩, ?_, h.col, ?_⟩, ⟨hs0.1, fun hf => (hft k0 hf).elim hs0.2.1 (fun e => by omega), hs0.2.2.1, hs0.2.2.2⟩⟩, hTF, KeepC.turn hTn hk0 hs0.2.1⟩
  · refine hTn.heap h.box (fun hf => ?_)
    have := h.parts.tab _ hf
    rw [h.parts.box] at this; omega
  · refine h.lst.turn hTn (fun j hj hf => ?_) (fun i v j h1 h2 hf => ?_)
    · have := h.parts.tab _ hf; rw [h.parts.arr j hj] at this; omega
    · have := h.parts.tab _ hf; rw [h.parts.lists i v j h1 h2] at this; omega
  · have hl := h.lt _ h.own.1
    show (if xb < W.heap.size then (if 0 < k.l.length ∧ xb = k.b then 2 else kd xb) else 1) = 0
    rw [if_pos hl, if_neg (hkN _ h.own.1), h.parts.box]
  · intro j hj
    show (if j < W.heap.size then (if 0 < k.l.length ∧ j = k.b then 2 else kd j) else 1) = 1
    rcases hft j hj with hf | hf
    · rw [if_pos (h.lt _ (h.own.2.1 j hf)), if_neg (hkN _ (h.own.2.1 j hf)), h.parts.tab j hf]
    · rw [if_neg (by omega)]
  · intro j hj
    show (if j < W.heap.size then (if 0 < k.l.length ∧ j = k.b then 2 else kd j) else 1) = 2
    rcases hfn j hj with hf | ⟨h0, rfl⟩
    · rw [if_pos (h.lt _ (h.own.2.2.1 j hf)), if_neg (hkN _ (h.own.2.2.1 j hf)), h.parts.keys j hf]
    · rw [if_pos (hkb h0).2, if_pos ⟨h0, rfl⟩]
  · intro j hj
    show (if j < W.heap.size then (if 0 < k.l.length ∧ j = k.b then 2 else kd j) else 1) = 3
    have hf := h.own.2.2.2.1 j hj
    rw [if_pos (h.lt _ hf), if_neg (hkN _ hf), h.parts.arr j hj]
  · intro i v j h1 h2
    show (if j < W.heap.size then (if 0 < k.l.length ∧ j = k.b then 2 else kd j) else 1) = 4 + i
    have hf := h.own.2.2.2.2 i v j h1 h2
    rw [if_pos (h.lt _ hf), if_neg (hkN _ hf), h.parts.lists i v j h1 h2]
  · exact .inl h.own.1
  · intro j hj
    rcases hft j hj with hf | hf
    · exact .inl (h.own.2.1 j hf)
    · exact .inr ⟨by omega, hT.lt j (.inl hj)⟩
  · intro j hj
    rcases hfn j hj with hf | ⟨h0, rfl⟩
    · exact .inl (h.own.2.2.1 j hf)
    · have := hkb h0; exact .inr ⟨this.1, by omega⟩
  · intro j hj; exact .inl (h.own.2.2.2.1 j hj)
  · intro i v j h1 h2; exact .inl (h.own.2.2.2.2 i v j h1 h2)
  · rintro j (hf | hf)
    · have := h.lt j hf; omega
    · exact hf.2
  · intro t' ht'
    rcases List.mem_append.1 ht' with h1 | h1
    · exact h.wide t' h1
    · rw [List.mem_singleton.1 h1]; exact ht

set_option maxRecDepth 100000 in
set_option maxHeartbeats 1000000 in
theorem join_firstN {k0 n0 : Nat} (hk0 : k0 < W.heap.size) (hs0 : Sk xb tb pb cv lv vs ls k0 n0) (h : Lk W F xb c T tb fp cv pb N len reach came places lv vs ls kd) (hT : T.length + 1 ≤ 68719476736) (a : Option Addr) (b o cap : Nat) (t : List Int) (hI : IntsS W a b o t) (hl : t.length ≤ maxLen) (hw : Lib.bitLen c ≤ t.length) (h0 : plc c T (cutL t c) = []) :
    Calls Try.prog 43 #[.pointer (some ⟨xb, 0, none⟩), .slice a t.length cap, .int .i64 T.length] W fun e w' => e = .returned (.tuple #[]) ∧ LkN w' (Grow F W.heap.size w') xb c (T ++ [t]) k0 n0 ∧ Turn F W w' ∧ KeepC k0 n0 W w' := by
  have hcut := cut_any W a b o cap c t hI hl h.col hw
  have hcl : (cutL t c).length ≤ maxLen := by
    have := cols_len c 16
    unfold cutL maxLen; rw [List.length_map]; omega
  have c0 := h.c0
  have c1 := h.c1
  have HH : Hid (Lk W F xb c T tb fp cv pb N len reach came places lv vs ls kd) := h
  clear h hI
  go_enter Try.func43, Try.ntmps43
  go_wp2_with fail
  refine hcut.mono ?_
  rintro e w1 ⟨v, rfl, hown, hs1⟩
  obtain ⟨k, rfl, hk, hIk, hkl, hkb⟩ := own_key hown hcl
  have h1 := HH.out.stay hs1
  have hg := get_no (h1.ask k hIk hkl (fun q hf => by have := HH.out.lt _ hf; have := (hkb q).1; omega)) k (List.mem_cons_self ..) (h1.no (by rw [hk]; exact h0))
  have c1' := hs1.cell c1
  have HK : Hid (k.l = cutL t c ∧ IntsS w1 k.a k.b k.off k.l ∧ k.l.length ≤ maxLen ∧ (0 < k.l.length → W.heap.size ≤ k.b ∧ k.b < w1.heap.size) ∧ Stay W w1 ∧ plc c T k.l = []) := ⟨hk, hIk, hkl, hkb, hs1, by rw [hk]; exact h0⟩
  clear hcut hown hs1 hk hIk hkl hkb h1 c0 c1 h0
  go_wp2_with fail
  refine hg.mono ?_
  rintro e w2 ⟨rfl, hs2⟩
  have H2 : Hid (Stay w1 w2) := hs2
  have c1'' := hs2.cell c1'
  clear hg hs2 c1'
  have hput : Calls Try.prog 63 #[.pointer (some ⟨tb, 0, none⟩), k.v, .int .i64 T.length] w2 fun e' w' => e' = .returned (.tuple #[.int .i64 0, .bool false, .int .i64 0]) ∧ LkN w' (Grow F W.heap.size w') xb c (T ++ [t]) k0 n0 ∧ Turn F W w' ∧ KeepC k0 n0 W w' := by
    obtain ⟨hk, hIk, hkl, hkb, hs1, h0⟩ := HK.out
    have hsW := hs1.trans H2.out
    have h2 := HH.out.stay hsW
    have hask := h2.ask k (hIk.stay H2.out) hkl (fun q hf => by have := HH.out.lt _ hf; have := (hkb q).1; omega)
    refine (put_new hask k (List.mem_cons_self ..) T.length (h2.no h0) (by have := h2.cont.few; omega)).mono ?_
    rintro e w3 ⟨rfl, hA⟩
    obtain ⟨r1, r2, r3⟩ := h2.firstN (Nat.lt_of_lt_of_le hk0 hsW.size) hs0 (base := W.heap.size) hsW.size hk h0 (fun q => ⟨(hkb q).1, Nat.lt_of_lt_of_le (hkb q).2 H2.out.size⟩) HH.out.lt hw hA
    exact ⟨rfl, r1, (Turn.of_stay hsW).trans r2, (KeepC.stay hsW hk0).trans r3⟩
  clear HK
  go_wp2_with fail
  refine hput.mono ?_
  rintro e w3 ⟨rfl, hr⟩
  have HR : Hid _ := hr
  clear hput hr
  go_wp2
  go_end0
  exact ⟨rfl, HR.out⟩
end
end Go.Proofs.Ytnhmjheipfopoaa.L
namespace Go.Proofs.Ytnhmjheipfopoaa.L
open Go.RowKit Go.Maps Go.Proofs.Ytnhmjheipfopoaa

theorem snocKeep {w2 W1 w3 : World} {xb k0 n0 g3 n cap3 : Nat} {lv : Value} (hk : k0 < w2.heap.size) (hx : k0 ≠ xb) (hlv : lv.ownBlock ≠ some k0) (hs : Stay w2 W1) (hgrow : W1.grownBy w3 lv.ownBlock) (hloc : (Value.slice (some ⟨g3, 0, none⟩) n cap3).ownBlock = lv.ownBlock ∨ (Value.slice (some ⟨g3, 0, none⟩) n cap3).ownBlock = some W1.heap.size) :
    KeepC k0 n0 w2 (w3.setCell ⟨xb, 2, none⟩ (.slice (some ⟨g3, 0, none⟩) n cap3)) ∧ g3 ≠ k0 := by
  refine ⟨?_, ?_⟩
  · have h1 : Turn (fun k => lv.ownBlock = some k ∨ k = xb) w2 w3 := ((Turn.of_stay (S := fun k => lv.ownBlock = some k ∨ k = xb) hs)).trans ((Turn.of_grown hgrow).mono (fun _ _ e => .inl e))
    refine KeepC.turn (h1.set (g := xb) (.inr rfl) 2 _) hk ?_
    rintro (e | e)
    · exact hlv e
    · exact hx e
  · rintro rfl
    rcases hloc with e | e
    · exact hlv (e.symm.trans rfl)
    · simp only [Value.ownBlock, Option.some.injEq] at e
      have := hs.size; omega
theorem snocList {vs : List Value} {ls : List (List Nat)} {k0 n0 : Nat} {v' : Value} {qs : List Nat} (hl : vs.length = ls.length) (h : ∀ (i : Nat) (v : Value) (ps : List Nat), vs[i]? = some v → ls[i]? = some ps → v.ownBlock = some k0 → n0 ≤ ps.length) (hv : v'.ownBlock ≠ some k0) :
    ∀ (i : Nat) (v : Value) (ps : List Nat), (vs ++ [v'])[i]? = some v → (ls ++ [qs])[i]? = some ps → v.ownBlock = some k0 → n0 ≤ ps.length := by
  intro i v ps h1 h2 h3
  by_cases hi : i < vs.length
  · rw [List.getElem?_append_left hi] at h1
    rw [List.getElem?_append_left (by omega)] at h2
    exact h i v ps h1 h2 h3
  · have hil := (List.getElem?_eq_some_iff.1 h1).1
    rw [List.length_append, List.length_singleton] at hil
    obtain rfl : i = vs.length := by omega
    simp at h1
    subst h1
    exact absurd h3 hv

section
variable {W W' : World} {F : Nat → Prop} {xb c : Nat} {T : List (List Int)} {tb : Nat} {fp : List LK} {cv : Value} {pb N len reach : Nat} {came : List E} {places : List Nat} {lv : Value} {vs : List Value} {ls : List (List Nat)} {kd : Nat → Nat}

set_option maxRecDepth 100000 in
set_option maxHeartbeats 2000000 in
theorem join_secondN {k0 n0 : Nat} (hk0 : k0 < W.heap.size) (hs0 : Sk xb tb pb cv lv vs ls k0 n0) (h : Lk W F xb c T tb fp cv pb N len reach came places lv vs ls kd) (hT : T.length + 1 ≤ 68719476736) (a : Option Addr) (b o cap : Nat) (t : List Int) (hI : IntsS W a b o t) (hl : t.length ≤ maxLen) (hw : Lib.bitLen c ≤ t.length)
    {i : Nat} {e : E} (he : came[i]? = some e) (hek : e.key.l = cutL t c) {p : Nat} (hev : e.val = p) :
    Calls Try.prog 43 #[.pointer (some ⟨xb, 0, none⟩), .slice a t.length cap, .int .i64 T.length] W fun e w' => e = .returned (.tuple #[]) ∧ LkN w' (Grow F W.heap.size w') xb c (T ++ [t]) k0 n0 ∧ Turn F W w' ∧ KeepC k0 n0 W w' := by
  have hcut := cut_any W a b o cap c t hI hl h.col hw
  have hcl : (cutL t c).length ≤ maxLen := by
    have := cols_len c 16
    unfold cutL maxLen; rw [List.length_map]; omega
  have c0 := h.c0
  have c1 := h.c1
  have hth := h.cont.there i e he
  obtain ⟨i0, hi, hz0, hz1, hz2⟩ := info_parts infoInts
  have HH : Hid (Lk W F xb c T tb fp cv pb N len reach came places lv vs ls kd) := h
  have HE : Hid (came[i]? = some e ∧ e.there = true ∧ e.key.l = cutL t c ∧ e.val = p) := ⟨he, hth, hek, hev⟩
  have hfew := h.cont.few
  have hll := h.lst.len
  clear h hI
  go_enter Try.func43, Try.ntmps43
  go_wp2_with fail
  refine hcut.mono ?_
  rintro e1 w1 ⟨v, rfl, hown, hs1⟩
  obtain ⟨k, rfl, hk, hIk, hkl, hkb⟩ := own_key hown hcl
  have h1 := HH.out.stay hs1
  have hg := get_yes (h1.ask k hIk hkl (fun q hf => by have := HH.out.lt _ hf; have := (hkb q).1; omega)) k (List.mem_cons_self ..) he hth (by simp [sm, hek, hk])
  rw [hev] at hg
  have c1' := hs1.cell c1
  have HK : Hid (k.l = cutL t c ∧ IntsS w1 k.a k.b k.off k.l ∧ k.l.length ≤ maxLen ∧ (0 < k.l.length → W.heap.size ≤ k.b ∧ k.b < w1.heap.size) ∧ Stay W w1) := ⟨hk, hIk, hkl, hkb, hs1⟩
  have hp0 : ¬ (p : Int) < 0 := by omega
  clear hcut hown hs1 hk hIk hkl hkb h1 c0 c1 he hth hek hev
  go_wp2_with fail
  refine hg.mono ?_
  rintro e2 w2 ⟨rfl, hs2⟩
  have hsW : Stay W w2 := HK.out.2.2.2.2.trans hs2
  have HM2 : Hid (∃ kd2, Mk w2 (Grow F W.heap.size w2) xb c tb (k :: fp) cv pb N len reach came places lv vs ls kd2) := by
    obtain ⟨_, hIk, hkl, hkb, _⟩ := HK.out
    exact (HH.out.mk'.stay hsW).ask (hIk.stay hs2) hkl (fun q => ⟨(hkb q).1, Nat.lt_of_lt_of_le (hkb q).2 hs2.size⟩) (fun j hj => HH.out.lt j hj)
  have H2 : Hid (Stay W w2) := hsW
  obtain ⟨kd2, hM2⟩ := HM2.out
  have c1'' := hs2.cell c1'
  have c2 : w2.cell? ⟨xb, 2, none⟩ = some lv := by simp [World.cell?, hM2.box]
  have hownL := hM2.lst.own
  have HMM : Hid (Mk w2 (Grow F W.heap.size w2) xb c tb (k :: fp) cv pb N len reach came places lv vs ls kd2) := hM2
  have hown0 : (((w2.alloc (.cells #[.int .i64 p, .int .i64 T.length] 3)).alloc (.cells #[.slice (some ⟨w2.heap.size, 0, none⟩) 2 2] 23))).ownsRow 0 23 1 lv vs.length vs := (hownL.alloc _).alloc _
  have HV : Hid (OwnI w2.heap.size ((w2.alloc (.cells #[.int .i64 p, .int .i64 T.length] 3)).alloc (.cells #[.slice (some ⟨w2.heap.size, 0, none⟩) 2 2] 23)) (.slice (some ⟨w2.heap.size, 0, none⟩) 2 2) ([p, T.length].map Int.ofNat)) :=
    (own_block (zs := [p, T.length].map Int.ofNat) (Nat.le_refl _) (heap_new _ _) (by unfold maxLen; simp)).stay (Stay.new _ _)
  have hvl : vs.length ≤ 68719476736 := by omega
  have HLL : Hid (vs.length = ls.length) := hll
  clear hll
  clear hg hs2 c1' hsW hM2 hownL HM2
  go_wp2_with (at_builtin; refine wpList_append_own_at _ rfl _ _ 22 rfl 0 23 i0 _ 1 24 Try.underlying22 hi hz0 hz1 hz2 rfl (by decide) lv vs.length vs rfl hown0 ⟨w2.heap.size + 1, 0, none⟩ 1 1 [.slice (some ⟨w2.heap.size, 0, none⟩) 2 2] rfl rfl (new_cells' _ _ _ _ (by simp)) (by simp [Value.oneCell']) (by unfold maxLen; omega) (by omega) (Nat.zero_le _) ?_; intro lv' w3 hown3 hgrow hnil hloc; obtain ⟨g3, cap3, rfl⟩ := own_form hown3 (by omega); obtain ⟨kd3, hM3, hT3, d2, f2⟩ := HMM.out.snoc (base := w2.heap.size) (Nat.le_refl _) ((Stay.new w2 _).alloc _) HV.out ⟨_, rfl⟩ hown3 hgrow hloc; have H3 : Hid _ := And.intro hM3 hT3; have hk2 : k0 < w2.heap.size := Nat.lt_of_lt_of_le hk0 H2.out.size; have hK3 : KeepC k0 n0 w2 (w3.setCell ⟨xb, 2, none⟩ (.slice (some ⟨g3, 0, none⟩) (vs.length + 1) cap3)) ∧ g3 ≠ k0 := snocKeep hk2 hs0.1 hs0.2.2.1 ((Stay.new w2 _).alloc _) hgrow hloc; have HK3 : Hid _ := hK3; clear hK3 hk2; clear hown3 hgrow hnil hloc hM3 hT3 hown0 c2)
  obtain ⟨hM3, hT3⟩ := H3.out
  have HW34 : Hid (w3.heap.size ≤ (w3.setCell ⟨xb, 2, none⟩ (.slice (some ⟨g3, 0, none⟩) (vs.length + 1) cap3)).heap.size) := by show (_ : Nat) ≤ _; simp [World.setCell]
  have HK4 : Hid _ := HK3.out.1
  have HG3 : Hid _ := HK3.out.2
  clear HK3
  generalize w3.setCell ⟨xb, 2, none⟩ (.slice (some ⟨g3, 0, none⟩) (vs.length + 1) cap3) = w4 at hM3 hT3 HW34 HK4 ⊢
  have e1 : w4.cell? ⟨xb, 1, none⟩ = some (.pointer (some ⟨tb, 0, none⟩)) := by simp [World.cell?, hM3.box]
  have e2 : w4.cell? ⟨xb, 2, none⟩ = some (.slice (some ⟨g3, 0, none⟩) (vs.length + 1) cap3) := by simp [World.cell?, hM3.box]
  have hput : Calls Try.prog 63 #[.pointer (some ⟨tb, 0, none⟩), k.v, .int .i64 (-((vs.length : Int) + 1))] w4.drew fun e' w' => e' = .returned (.tuple #[.int .i64 p, .bool true, .int .i64 0]) ∧ LkN w' (Grow F W.heap.size w') xb c (T ++ [t]) k0 n0 ∧ Turn F W w' ∧ KeepC k0 n0 W w' := by
    obtain ⟨he, hth, hek, hev⟩ := HE.out
    obtain ⟨hk, _, _, _, hs1⟩ := HK.out
    have hM4 := hM3.stay (Stay.drew w4)
    have hp := put_yes hM4.tab k (List.mem_cons_self ..) (-((vs.length : Int) + 1)) he hth (by simp [sm, hek, hk])
    rw [hev] at hp
    refine hp.mono ?_
    rintro e5 w5 ⟨rfl, hT5, hTn5⟩
    have hM5 := hM4.put hT5 hTn5
    have hc5 := HH.out.cont.second (t := t) he hek hev
    rw [← HLL.out] at hc5
    have hsz2 := H2.out.size
    have hsz4 := hT3.size
    have hsz5 := hTn5.size
    have hdz : w4.drew.heap.size = w4.heap.size := rfl
    have hlW := HH.out.lt
    have hS34 : w3.heap.size ≤ w4.heap.size := HW34.out
    have hsk : Sk xb tb pb cv (.slice (some ⟨g3, 0, none⟩) (vs.length + 1) cap3) (vs ++ [.slice (some ⟨w2.heap.size, 0, none⟩) 2 2]) (ls ++ [[p, T.length]]) k0 n0 := ⟨hs0.1, hs0.2.1, fun e => HG3.out (Option.some.inj e), snocList HLL.out hs0.2.2.2 (by intro e; simp only [Value.ownBlock, Option.some.injEq] at e; omega)⟩
    refine ⟨rfl, LkN.grow ⟨_, _, _, _, _, _, _, _, _, _, _, _, _, hM5.lk hc5 HH.out.col ?_, hsk⟩ ?_ ?_, ((Turn.of_stay H2.out).then hT3 ?_).then ((Turn.of_stay (S := foot tb pb cv) (Stay.drew w4)).trans hTn5) ?_, ((KeepC.stay H2.out hk0).trans HK4.out).trans (KeepC.turn ((Turn.of_stay (S := foot tb pb cv) (Stay.drew w4)).trans hTn5) (by omega) hs0.2.1)⟩
    · intro t' ht'
      rcases List.mem_append.1 ht' with h1 | h1
      · exact HH.out.wide t' h1
      · rw [List.mem_singleton.1 h1]; exact hw
    · rintro j ((h1 | h1) | h1)
      · exact .inl h1
      · exact .inr ⟨h1.1, by omega⟩
      · exact .inr ⟨by omega, by omega⟩
    · rintro j (h1 | h1)
      · have := hlW j h1; omega
      · exact h1.2
    · rintro j hj (h1 | h1)
      · exact h1
      · omega
    · intro j hj h1
      exact HH.out.own.2.1 j h1
  have hwr := wrap_neg vs.length hvl
  rw [← hwr] at hput
  clear hM3 hT3 H3 HMM HV d2 f2 c1'' HW34 hwr
  go_region_with (go_at_call 63; refine hput.mono ?_; rintro e5 w5 ⟨rfl, hr⟩; have HR : Hid _ := hr; clear hr)
  all_goals go_end0
  all_goals exact ⟨rfl, HR.out⟩
end
end Go.Proofs.Ytnhmjheipfopoaa.L
