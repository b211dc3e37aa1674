/- The document's relation: Add. -/
import Derived.Test.YtnhmjheipfopoaaL7d
namespace Go.Proofs.Ytnhmjheipfopoaa.L
open Go.RowKit Go.Maps Go.Shelf Go.Proofs.Ytnhmjheipfopoaa

theorem app_nil (w : World) (cap : Nat) : (Builtin.append_ #[23, 23] 23 #[.slice none 0 0, .slice none 0 cap]).run Try.prog w = .ok (.slice none 0 0) w := by kernel_rfl
/-- A copy of a list: append to nothing. -/
theorem app_copy (w : World) (a : Option Addr) (b o cap : Nat) (t : List Int) (hI : IntsS w a b o t) (hl : t.length ≤ 1099511627776) :
    ∃ v w', (Builtin.append_ #[23, 23] 23 #[.slice none 0 0, .slice a t.length cap]).run Try.prog w = .ok v w' ∧ OwnI w.heap.size w' v t ∧ Stay w w' := by
  obtain ⟨i0, hi, hz0, hz1, hz2⟩ := info_parts infoInt
  cases a with
  | none =>
    have ht : t = [] := by
      cases t with
      | nil => rfl
      | cons x xs => have := hI.1 (by simp); cases this
    subst ht
    exact ⟨_, _, app_nil w cap, World.ownsRow_nil _ _ _ _, Stay.refl w⟩
  | some ad =>
    have hx : ∀ j u, (t.map (Value.int .i64))[j]? = some u → w.cell? (ad.add j) = some u := fun j u hu => by
      obtain ⟨ad', h1, h2⟩ := src_of hI (Nat.lt_of_le_of_lt (Nat.zero_le j) (List.getElem?_eq_some_iff.1 hu).1)
      obtain rfl := Option.some.inj h1
      exact h2 j u hu
    obtain ⟨v, w', hr, h2, h3, _, _⟩ := run_append_own_at (P := Try.prog) w w.heap.size 23 23 3 i0 (.int .i64 0) 1 8 Try.underlying23 hi hz0 hz1 hz2 rfl (by decide) (.slice none 0 0) 0 [] (World.ownsRow_nil _ _ _ _) ad t.length cap (t.map (Value.int .i64)) (by simp) hx (by intro u hu; obtain ⟨x, _, rfl⟩ := List.mem_map.1 hu; rfl) (by unfold maxLen; omega) (by omega) (Nat.le_refl _)
    refine ⟨v, w', hr, ?_, (Stay.refl w).grown h3 (Nat.le_refl _) (fun k e => by simp [Value.ownBlock] at e)⟩
    unfold OwnI
    rw [Nat.zero_add, List.nil_append] at h2
    exact h2
theorem own_tup {base : Nat} {w : World} {v : Value} {t : List Int} (h : OwnI base w v t) : ∃ u : Tup, v = u.v ∧ u.xs = t ∧ IntsS w u.a u.b u.o u.xs ∧ (0 < u.xs.length → base ≤ u.b ∧ u.b < w.heap.size) := by
  rcases id h.2 with ⟨h1, h2⟩ | ⟨g, c, cur, h1, h2, h3, h4, h5, h6, h7⟩
  · have ht : t = [] := List.length_eq_zero_iff.1 h2
    subst ht
    exact ⟨⟨none, 0, 0, 0, []⟩, h1, rfl, ⟨fun h => by simp at h, fun j h => by simp at h⟩, fun h => by simp at h⟩
  · refine ⟨⟨some ⟨g, 0, none⟩, g, 0, c, t⟩, h1, rfl, ?_, fun _ => ⟨h2, (Array.getElem?_eq_some_iff.1 h3).1⟩⟩
    unfold OwnI at h
    rw [h1] at h
    exact ints_of_row (r := []) (by rw [List.append_nil]; exact h)

section
variable {W W' : World} {G R : Nat → Prop} {qb ar : Nat} {T : List (List Int)} {lv : Value} {us : List Tup}

theorem Turn.of_grown {a c : World} {o : Option Nat} (k : a.grownBy c o) : Turn (fun i => o = some i) a c :=
  ⟨k.os, k.tape, k.output, k.size, fun i hi hn => k.block i hi (fun e => hn e.symm)⟩
/-- A tuple more. -/
theorem Rf.push (h : Rf W G R qb ar T lv us) {w2 w3 : World} {u : Tup} {g3 c3 : Nat} (hs : Stay W w2) (hui : IntsS w2 u.a u.b u.o u.xs) (hub : 0 < u.xs.length → W.heap.size ≤ u.b ∧ u.b < w2.heap.size) (hux : u.xs.length = ar) (hnew : posL T u.xs = [])
    (hgr : Turn (fun k => lv.ownBlock = some k) w2 w3) (hown : w3.ownsRow 0 23 1 (.slice (some ⟨g3, 0, none⟩) (T.length + 1) c3) (T.length + 1) (us.map Tup.v ++ [u.v])) (hloc : lv.ownBlock = some g3 ∨ w2.heap.size ≤ g3) :
    ∃ G' R', RfS (w3.setCell ⟨qb, 1, none⟩ (.slice (some ⟨g3, 0, none⟩) (T.length + 1) c3)) G' R' qb ar (T ++ [u.xs]) ∧ (∀ k, G' k → G k ∨ W.heap.size ≤ k) ∧ (∀ k, R' k → R k ∨ W.heap.size ≤ k) ∧ Turn G W (w3.setCell ⟨qb, 1, none⟩ (.slice (some ⟨g3, 0, none⟩) (T.length + 1) c3)) := by
  have hlen := h.len
  rw [← hlen] at hown ⊢
  have hsz := hs.size
  have hsz3 := hgr.size
  have hqb : qb < W.heap.size := h.lt _ (.inl h.foot.1)
  have hlv : ∀ k, lv.ownBlock = some k → G k ∧ k ≠ qb ∧ k < W.heap.size := fun k hk => ⟨(h.foot.2 k hk).1, (h.foot.2 k hk).2, h.lt k (.inl (h.foot.2 k hk).1)⟩
  have hg3 : g3 ≠ qb := by
    rcases hloc with e | e
    · exact (hlv _ e).2.1
    · omega
  have hg3l : g3 < w3.heap.size := own_at hown rfl
  have hbox3 : w3.heap[qb]? = some (.cells #[.int .i64 ar, lv] 38 (0, 0)) := hgr.heap (hs.heap h.box) (fun e => (hlv _ e).2.1 rfl)
  have hset : Turn (fun k => k = qb) w3 (w3.setCell ⟨qb, 1, none⟩ (.slice (some ⟨g3, 0, none⟩) (us.length + 1) c3)) := by exact Turn.set (g := qb) (Turn.refl (fun k => k = qb) w3) rfl 1 _
  have h3 : Turn (fun k => lv.ownBlock = some k ∨ k = qb) w2 (w3.setCell ⟨qb, 1, none⟩ (.slice (some ⟨g3, 0, none⟩) (us.length + 1) c3)) := (hgr.mono (fun k _ hk => .inl hk)).then hset (fun k _ hk => .inr hk)
  have hT : Turn G W (w3.setCell ⟨qb, 1, none⟩ (.slice (some ⟨g3, 0, none⟩) (us.length + 1) c3)) := (Turn.of_stay (S := G) hs).then h3 (fun k _ hk => by
    rcases hk with hk | rfl
    · exact (hlv k hk).1
    · exact h.foot.1)
  have hsz4 := hset.size
  have hnG : ∀ k, W.heap.size ≤ k → ¬ G k := fun k hk hg => by have := h.lt k (.inl hg); omega
  refine ⟨fun k => G k ∨ k = g3, fun k => R k ∨ (0 < u.xs.length ∧ k = u.b), ⟨.slice (some ⟨g3, 0, none⟩) (us.length + 1) c3, us ++ [u], ?_⟩, ?_, ?_, hT⟩
  · refine { box := ?_, row := ?_, eqT := by rw [List.map_append, h.eqT]; rfl, each := ?_, rows := ?_, nodup := ?_, arle := h.arle, foot := ⟨.inl h.foot.1, ?_⟩, keep := ?_, lt := ?_ }
    · rw [heap_setCell_same _ _ _ _ _ _ hbox3]; rfl
    · rw [List.length_append, List.map_append]
      exact hset.row hown (fun k hk => by simp [Value.ownBlock] at hk; omega)
    · intro u' hu'
      rcases List.mem_append.1 hu' with hu' | hu'
      · exact ints_turn (h.each u' hu') hT (fun h0 => (h.keep u' hu' h0).2)
      · rw [List.mem_singleton.1 hu']
        exact ints_turn hui h3 (fun h0 hk => by
          have := hub h0
          rcases hk with hk | hk
          · have := (hlv _ hk).2.2; omega
          · omega)
    · intro t' ht'
      rcases List.mem_append.1 ht' with ht' | ht'
      · exact h.rows t' ht'
      · rw [List.mem_singleton.1 ht']; exact hux
    · refine List.nodup_append.2 ⟨h.nodup, List.nodup_cons.2 ⟨by simp, List.nodup_nil⟩, fun x hx y hy hxy => ?_⟩
      rw [List.mem_singleton] at hy
      subst hxy hy
      obtain ⟨k, hk⟩ := List.getElem?_of_mem hx
      rw [posL_at h.nodup hk] at hnew
      cases hnew
    · intro k hk
      simp only [Value.ownBlock, Option.some.injEq] at hk
      subst hk
      exact ⟨.inr rfl, hg3⟩
    · intro u' hu' h0
      rcases List.mem_append.1 hu' with hu' | hu'
      · have hk := h.keep u' hu' h0
        have hlt := h.lt _ (.inr hk.1)
        refine ⟨.inl hk.1, fun e => ?_⟩
        rcases e with e | e
        · exact hk.2 e
        · rcases hloc with e2 | e2
          · exact hk.2 (e ▸ (hlv _ e2).1)
          · omega
      · rw [List.mem_singleton.1 hu'] at h0 ⊢
        have := hub h0
        refine ⟨.inr ⟨h0, rfl⟩, fun e => ?_⟩
        rcases e with e | e
        · exact hnG _ this.1 e
        · rcases hloc with e2 | e2
          · have := (hlv _ e2).2.2; omega
          · omega
    · rintro k ((hk | rfl) | (hk | ⟨h0, rfl⟩))
      · have := h.lt k (.inl hk); omega
      · omega
      · have := h.lt k (.inr hk); omega
      · have := hub h0; omega
  · rintro k (hk | rfl)
    · exact .inl hk
    · rcases hloc with e | e
      · exact .inl (hlv _ e).1
      · exact .inr (by omega)
  · rintro k (hk | ⟨h0, rfl⟩)
    · exact .inl hk
    · exact .inr (hub h0).1

set_option maxRecDepth 100000 in
theorem y4Add_bad (h : Rf W G R qb ar T lv us) (a : Option Addr) (b o cap : Nat) (t : List Int) (hI : IntsS W a b o t) (hl : t.length ≤ maxLen) (hok : okT ar t = false) :
    Calls Try.prog 37 #[.pointer (some ⟨qb, 0, none⟩), .slice a t.length cap] W fun e w' => e = .returned (.tuple #[.int .i64 0, .bool false, .int .i64 2]) ∧ w' = W := by
  have ht := y4tuple_any h.c0 a b o cap t hI hl
  rw [hok] at ht
  clear h hI
  go_enter Try.func37, Try.ntmps37
  go_wp2_with (go_at_call 55; refine ht.mono ?_; rintro e w' ⟨rfl, hw⟩; have hw' := hw.symm; subst hw'; clear ht)
  go_ret3
  exact ⟨rfl, rfl⟩

set_option maxRecDepth 100000 in
theorem y4Add_old (h : Rf W G R qb ar T lv us) (a : Option Addr) (b o cap : Nat) (t : List Int) (hI : IntsS W a b o t) (hl : t.length ≤ maxLen) (hok : okT ar t = true) {p : Nat} {l : List Nat} (hp : posL T t = p :: l) :
    Calls Try.prog 37 #[.pointer (some ⟨qb, 0, none⟩), .slice a t.length cap] W fun e w' => e = .returned (.tuple #[.int .i64 p, .bool false, .int .i64 0]) ∧ Stay W w' := by
  have ht := y4tuple_any h.c0 a b o cap t hI hl
  rw [hok] at ht
  have hpl := y4Place_any h a b o cap t hI hl
  rw [hp] at hpl
  unfold placeV at hpl
  dsimp only at hpl
  clear h hI hp
  go_enter Try.func37, Try.ntmps37
  go_wp2_with (first | (go_at_call 55; refine ht.mono ?_; rintro e w' ⟨rfl, hw⟩; have hw' := hw.symm; subst hw'; clear ht) | (go_at_call 56; refine hpl.mono ?_; rintro e w' ⟨rfl, n, rfl⟩; clear hpl))
  go_ret3
  exact ⟨rfl, Stay.drewN _ _⟩

set_option maxRecDepth 100000 in
set_option maxHeartbeats 4000000 in
theorem y4Add_new (h : Rf W G R qb ar T lv us) (hT : T.length + 1 ≤ 68719476736) (a : Option Addr) (b o cap : Nat) (t : List Int) (hI : IntsS W a b o t) (hl : t.length ≤ maxLen) (hok : okT ar t = true) (hp : posL T t = []) :
    Calls Try.prog 37 #[.pointer (some ⟨qb, 0, none⟩), .slice a t.length cap] W fun e w' => e = .returned (.tuple #[.int .i64 T.length, .bool true, .int .i64 0]) ∧ ∃ G' R', RfS w' G' R' qb ar (T ++ [t]) ∧ (∀ k, G' k → G k ∨ W.heap.size ≤ k) ∧ (∀ k, R' k → R k ∨ W.heap.size ≤ k) ∧ Turn G W w' := by
  have ht := y4tuple_any h.c0 a b o cap t hI hl
  rw [hok] at ht
  have hpl := y4Place_any h a b o cap t hI hl
  rw [hp] at hpl
  unfold placeV at hpl
  dsimp only at hpl
  have hta : t.length = ar := by unfold okT at hok; simp at hok; exact hok.1
  have har := h.arle
  have H : Hid (Rf W G R qb ar T lv us ∧ IntsS W a b o t ∧ t.length = ar ∧ posL T t = []) := ⟨h, hI, hta, hp⟩
  clear h hI hp hok hta
  go_enter Try.func37, Try.ntmps37
  go_wp2_with (first | (go_at_call 55; refine ht.mono ?_; rintro e w' ⟨rfl, hw⟩; have hw' := hw.symm; subst hw'; clear ht) | (go_at_call 56; refine hpl.mono ?_; rintro e w' ⟨rfl, n, rfl⟩; clear hpl))
  have HS0 : Hid (Stay W (W.drewN n).drew) := (Stay.drewN W n).trans (Stay.drew _)
  generalize W.drewN n = W0 at HS0
  obtain ⟨v1, w2, hap1, hown1, hs2⟩ := app_copy W0.drew a b o cap t (H.out.2.1.stay HS0.out) (by unfold maxLen at hl; have := H.out.2.2.1; omega)
  obtain ⟨u, rfl, hux, huI, hub⟩ := own_tup hown1
  unfold Tup.v at hap1
  rw [hux] at hap1
  have h2 := (H.out.1.stay (HS0.out.trans hs2)).row
  obtain ⟨i1, hi1, hz10, hz11, hz12⟩ := info_parts infoInts
  have hlen := H.out.1.len
  rw [hlen] at h2
  obtain ⟨v3, w3, hap2, hown3, hgr3, _, hloc3⟩ := run_append_own_at (P := Try.prog) (w2.alloc (.cells #[.slice u.a t.length u.c] 23)) 0 22 22 23 i1 (.slice none 0 0) 1 24 Try.underlying22 hi1 hz10 hz11 hz12 rfl (by decide) lv T.length (us.map Tup.v) (World.ownsRow.alloc h2 _) ⟨w2.heap.size, 0, none⟩ 1 1 [.slice u.a t.length u.c] rfl (new_cells w2 [.slice u.a t.length u.c] 23) (by intro z hz; rw [List.mem_singleton] at hz; subst hz; rfl) (by unfold maxLen; omega) (by omega) (Nat.zero_le _)
  have c1 : W0.cell? ⟨qb, 1, none⟩ = some lv := HS0.out.cell H.out.1.c1
  have d1 : w2.cell? ⟨qb, 1, none⟩ = some lv := hs2.cell c1
  have HS2 : Hid (w2.cell? ⟨qb, 0, none⟩ = some (.int .i64 ar) ∧ True) := ⟨(HS0.out.trans hs2).cell H.out.1.c0, trivial⟩
  have hsz2 : W.heap.size ≤ w2.heap.size := (HS0.out.trans hs2).size
  have hsz3 := hgr3.size
  rw [World.size_alloc] at hsz3
  have hlvG : ∀ k, lv.ownBlock = some k → G k ∧ k ≠ qb ∧ k < W.heap.size := fun k hk => ⟨(H.out.1.foot.2 k hk).1, (H.out.1.foot.2 k hk).2, H.out.1.lt k (.inl (H.out.1.foot.2 k hk).1)⟩
  have hqb : qb < W.heap.size := H.out.1.lt _ (.inl H.out.1.foot.1)
  have hold : ∀ k, k < w2.heap.size → lv.ownBlock ≠ some k → w3.heap[k]? = w2.heap[k]? := fun k hk hn => by
    rw [hgr3.block k (by rw [World.size_alloc]; omega) (fun e => hn e.symm)]
    exact (Below.heap_alloc w2 _ k hk)
  have eqb : w3.heap[qb]? = w2.heap[qb]? := hold qb (by omega) (fun e => (hlvG _ e).2.1 rfl)
  have hbox3 : w3.heap[qb]? = some (.cells #[.int .i64 ar, lv] 38 (0, 0)) := eqb.trans ((HS0.out.trans hs2).heap H.out.1.box)
  have d4 : w3.cell? ⟨qb, 1, none⟩ = some lv := by simp [World.cell?, hbox3]
  have d4f : w3.frozen? ⟨qb, 1, none⟩ = false := by simp [World.frozen?, hbox3]
  have d40 : w3.cell? ⟨qb, 0, none⟩ = some (.int .i64 ar) := by simp [World.cell?, hbox3]
  have d2 : (w2.alloc (.cells #[.slice u.a t.length u.c] 23)).cell? ⟨qb, 1, none⟩ = some lv := (Stay.new w2 _).cell d1
  have HS3 : Hid ((w2.alloc (.cells #[.slice u.a t.length u.c] 23)).cell? ⟨qb, 0, none⟩ = some (.int .i64 ar) ∧ True) := ⟨(Stay.new w2 _).cell HS2.out.1, trivial⟩
  have HS4 : Hid (w3.cell? ⟨qb, 0, none⟩ = some (.int .i64 ar) ∧ True) := ⟨d40, trivial⟩
  obtain ⟨g3, c3, rfl⟩ : ∃ g c, v3 = .slice (some ⟨g, 0, none⟩) (T.length + 1) c := by
    rcases hown3.2 with ⟨_, e⟩ | ⟨g, c, cur, e, _⟩
    · omega
    · exact ⟨g, c, e⟩
  have hloc : lv.ownBlock = some g3 ∨ w2.heap.size ≤ g3 := by
    rcases hloc3 with e | e
    · exact .inl (e.symm.trans rfl)
    · simp only [Value.ownBlock, Option.some.injEq, World.size_alloc] at e; exact .inr (by omega)
  have hF : ∃ G' R', RfS (w3.setCell ⟨qb, 1, none⟩ (.slice (some ⟨g3, 0, none⟩) (T.length + 1) c3)) G' R' qb ar (T ++ [t]) ∧ (∀ k, G' k → G k ∨ W.heap.size ≤ k) ∧ (∀ k, R' k → R k ∨ W.heap.size ≤ k) ∧ Turn G W (w3.setCell ⟨qb, 1, none⟩ (.slice (some ⟨g3, 0, none⟩) (T.length + 1) c3)) := by
    have := H.out.1.push (w3 := w3) (g3 := g3) (c3 := c3) (u := u) (HS0.out.trans hs2) huI (fun h0 => ⟨by have := hub h0; have := HS0.out.size; omega, (hub h0).2⟩) (by rw [hux]; exact H.out.2.2.1) (by rw [hux]; exact H.out.2.2.2) (((Turn.of_stay (S := fun k => lv.ownBlock = some k) (Stay.new w2 (.cells #[.slice u.a t.length u.c] 23))).then (Turn.of_grown hgr3) (fun k _ hk => hk))) (by unfold Tup.v; rw [hux]; exact hown3) hloc
    rw [hux] at this
    exact this
  have HF : Hid _ := hF
  have hsetc : (w3.setCell ⟨qb, 1, none⟩ (.slice (some ⟨g3, 0, none⟩) (T.length + 1) c3)).cell? ⟨qb, 0, none⟩ = some (.int .i64 ar) := by
    simp only [World.cell?, heap_setCell_same _ _ _ _ _ _ hbox3]; rfl
  have HS5 : Hid ((w3.setCell ⟨qb, 1, none⟩ (.slice (some ⟨g3, 0, none⟩) (T.length + 1) c3)).cell? ⟨qb, 0, none⟩ = some (.int .i64 ar) ∧ True) := ⟨hsetc, trivial⟩
  have d5 : (w3.setCell ⟨qb, 1, none⟩ (.slice (some ⟨g3, 0, none⟩) (T.length + 1) c3)).cell? ⟨qb, 1, none⟩ = some (.slice (some ⟨g3, 0, none⟩) (T.length + 1) c3) := by
    simp only [World.cell?, heap_setCell_same _ _ _ _ _ _ hbox3]; rfl
  obtain ⟨al, nl, cl, rfl⟩ : ∃ a n c, lv = .slice a n c := by
    obtain ⟨a9, c9, e, _⟩ := H.out.1.slice
    exact ⟨_, _, _, e⟩
  have hS0 : W0.drew.cell? ⟨qb, 0, none⟩ = some (.int .i64 ar) ∧ True := ⟨HS0.out.cell H.out.1.c0, trivial⟩
  clear hF hown1 huI hub h2 hi1 hz10 hz11 hz12 hgr3 hown3 hloc3 hloc hsz2 hsz3 hlvG hqb hold eqb hbox3 hsetc d40
  refine region_wpH (S := fun Y => Y.cell? ⟨qb, 0, none⟩ = some (.int .i64 ar) ∧ True) rfl ?_
  have hS := hS0
  clear hS0
  --@8@
  refine wpAnyH_take (i := 0) (v := .pointer (some ⟨qb, 0, none⟩)) rfl (by kernel_rfl) (by kernel_rfl) (by kernel_rfl) (fun _ _ _ h => h) (Or.inl ⟨by rfl, fun W _ => by first | (go_simp; done) | (go_simp; with_reducible rfl)⟩) hS ?_
  refine wpAnyH_take (i := 1) (v := .pointer (some ⟨qb, 0, none⟩)) rfl (by kernel_rfl) (by kernel_rfl) (by kernel_rfl) (fun _ _ _ h => h) (Or.inl ⟨by rfl, fun W _ => by first | (go_simp; done) | (go_simp; with_reducible rfl)⟩) hS ?_
  refine wpAnyH_take (i := 2) (v := .pointer (some ⟨qb, 0, none⟩)) rfl (by kernel_rfl) (by kernel_rfl) (by kernel_rfl) (fun _ _ _ h => h) (Or.inl ⟨by rfl, fun W _ => by first | (go_simp; done) | (go_simp; with_reducible rfl)⟩) hS ?_
  refine wpAnyH_take (i := 3) (v := .pointer (some ⟨qb, 1, none⟩)) rfl (by kernel_rfl) (by kernel_rfl) (by kernel_rfl) (fun _ _ _ h => h) (Or.inl ⟨by rfl, fun W _ => by first | (go_simp; done) | (go_simp; with_reducible rfl)⟩) hS ?_
  refine wpAnyH_take (i := 5) (v := .slice a t.length cap) rfl (by kernel_rfl) (by kernel_rfl) (by kernel_rfl) (fun _ _ _ h => h) (Or.inl ⟨by rfl, fun W _ => by first | (go_simp; done) | (go_simp; with_reducible rfl)⟩) hS ?_
  refine wpAnyH_ready (rs := [4, 6]) (by kernel_rfl) (by simp) (AllReadyH.cons (o := { dst := some 27, op := Op.load 22 (Operand.tmp 26), type := 22, pos := "ref.go:90", after := #[{ on := 3, ground := Ground.data }], guard := none }) rfl (fun K hK => ?_) (AllReadyH.cons (o := { dst := some 29, op := Op.call { callee := Callee.builtin Builtin.append, args := #[Operand.const (Value.slice none 0 0), Operand.tmp 28], argTypes := #[23, 23] }, type := 23, pos := "ref.go:90", after := #[{ on := 5, ground := Ground.data }], guard := none }) rfl (fun K hK => ?_) AllReadyH.nil))
  · (first | have c9 := d2 | have c9 := d1 | have c9 := c1)
    go_simp
    refine hK.out _ _ hS (fun hS => ?_)
    clear hK K
    refine wpAnyH_ready (rs := [6]) (by kernel_rfl) (by simp) (AllReadyH.cons (o := { dst := some 29, op := Op.call { callee := Callee.builtin Builtin.append, args := #[Operand.const (Value.slice none 0 0), Operand.tmp 28], argTypes := #[23, 23] }, type := 23, pos := "ref.go:90", after := #[{ on := 5, ground := Ground.data }], guard := none }) rfl (fun K hK => ?_) AllReadyH.nil)
    refine step_append_run rfl _ _ _ _ rfl (by first | rfl | (simp [Act.eval]; done) | simp [Act.eval, Act.put]) (by first | rfl | (simp [Act.eval]; done) | simp [Act.eval, Act.put]) hap1 ?_
    (try go_simp)
    refine hK.out _ _ HS2.out (fun hS => ?_)
    clear hK K
    refine wpAnyH_ready (rs := [7]) (by kernel_rfl) (by simp) (AllReadyH.cons (o := { dst := some 30, op := Op.buildSlice 22 1 #[(0, Operand.tmp 29)], type := 22, pos := "ref.go:90", after := #[{ on := 6, ground := Ground.data }], guard := none }) rfl (fun K hK => ?_) AllReadyH.nil)
    go_simp
    refine hK.out _ _ HS3.out (fun hS => ?_)
    clear hK K
    refine wpAnyH_ready (rs := [8]) (by kernel_rfl) (by simp) (AllReadyH.cons (o := { dst := some 31, op := Op.call { callee := Callee.builtin Builtin.append, args := #[Operand.tmp 27, Operand.tmp 30], argTypes := #[22, 22] }, type := 22, pos := "ref.go:90", after := #[{ on := 4, ground := Ground.data }, { on := 7, ground := Ground.data }, { on := 6, ground := Ground.chain }], guard := none }) rfl (fun K hK => ?_) AllReadyH.nil)
    refine step_append_run rfl _ _ _ _ rfl (by first | rfl | (simp [Act.eval]; done) | simp [Act.eval, Act.put]) (by first | rfl | (simp [Act.eval]; done) | simp [Act.eval, Act.put]) hap2 ?_
    (try go_simp)
    refine hK.out _ _ HS4.out (fun hS => ?_)
    clear hK K
    refine wpAnyH_take (i := 9) (v := .pointer (some ⟨qb, 0, none⟩)) rfl (by kernel_rfl) (by kernel_rfl) (by kernel_rfl) (fun _ _ _ h => h) (Or.inl ⟨by rfl, fun W _ => by first | (go_simp; done) | (go_simp; with_reducible rfl)⟩) hS ?_
    refine wpAnyH_take (i := 10) (v := .pointer (some ⟨qb, 1, none⟩)) rfl (by kernel_rfl) (by kernel_rfl) (by kernel_rfl) (fun _ _ _ h => h) (Or.inl ⟨by rfl, fun W _ => by first | (go_simp; done) | (go_simp; with_reducible rfl)⟩) hS ?_
    refine wpAnyH_ready (rs := [11]) (by kernel_rfl) (by simp) (AllReadyH.cons (o := { dst := none, op := Op.store 22 (Operand.tmp 33) (Operand.tmp 31), type := 0, pos := "ref.go:90", after := #[{ on := 10, ground := Ground.data }, { on := 8, ground := Ground.data }, { on := 8, ground := Ground.chain }, { on := 0, ground := Ground.phase }, { on := 1, ground := Ground.phase }, { on := 2, ground := Ground.phase }, { on := 3, ground := Ground.phase }, { on := 4, ground := Ground.phase }, { on := 5, ground := Ground.phase }, { on := 6, ground := Ground.phase }, { on := 7, ground := Ground.phase }, { on := 8, ground := Ground.phase }], guard := none }) rfl (fun K hK => ?_) AllReadyH.nil)
    go_simp
    refine hK.out _ _ HS5.out (fun hS => ?_)
    clear hK K
    refine wpAnyH_done (by kernel_rfl) ?_ _
    unfold normQ
    clear hap1 hap2 c1 d1 d2 d4 d4f hS
    (try dsimp only)
    go_wp2
    go_ret3
    exact ⟨by first | rfl | simp, HF.out⟩
  · refine step_append_run rfl _ _ _ _ rfl (by first | rfl | (simp [Act.eval]; done) | simp [Act.eval, Act.put]) (by first | rfl | (simp [Act.eval]; done) | simp [Act.eval, Act.put]) hap1 ?_
    (try go_simp)
    refine hK.out _ _ HS2.out (fun hS => ?_)
    clear hK K
    refine wpAnyH_ready (rs := [4, 7]) (by kernel_rfl) (by simp) (AllReadyH.cons (o := { dst := some 27, op := Op.load 22 (Operand.tmp 26), type := 22, pos := "ref.go:90", after := #[{ on := 3, ground := Ground.data }], guard := none }) rfl (fun K hK => ?_) (AllReadyH.cons (o := { dst := some 30, op := Op.buildSlice 22 1 #[(0, Operand.tmp 29)], type := 22, pos := "ref.go:90", after := #[{ on := 6, ground := Ground.data }], guard := none }) rfl (fun K hK => ?_) AllReadyH.nil))
    · (first | have c9 := d2 | have c9 := d1 | have c9 := c1)
      go_simp
      refine hK.out _ _ hS (fun hS => ?_)
      clear hK K
      refine wpAnyH_ready (rs := [7]) (by kernel_rfl) (by simp) (AllReadyH.cons (o := { dst := some 30, op := Op.buildSlice 22 1 #[(0, Operand.tmp 29)], type := 22, pos := "ref.go:90", after := #[{ on := 6, ground := Ground.data }], guard := none }) rfl (fun K hK => ?_) AllReadyH.nil)
      go_simp
      refine hK.out _ _ HS3.out (fun hS => ?_)
      clear hK K
      refine wpAnyH_ready (rs := [8]) (by kernel_rfl) (by simp) (AllReadyH.cons (o := { dst := some 31, op := Op.call { callee := Callee.builtin Builtin.append, args := #[Operand.tmp 27, Operand.tmp 30], argTypes := #[22, 22] }, type := 22, pos := "ref.go:90", after := #[{ on := 4, ground := Ground.data }, { on := 7, ground := Ground.data }, { on := 6, ground := Ground.chain }], guard := none }) rfl (fun K hK => ?_) AllReadyH.nil)
      refine step_append_run rfl _ _ _ _ rfl (by first | rfl | (simp [Act.eval]; done) | simp [Act.eval, Act.put]) (by first | rfl | (simp [Act.eval]; done) | simp [Act.eval, Act.put]) hap2 ?_
      (try go_simp)
      refine hK.out _ _ HS4.out (fun hS => ?_)
      clear hK K
      refine wpAnyH_take (i := 9) (v := .pointer (some ⟨qb, 0, none⟩)) rfl (by kernel_rfl) (by kernel_rfl) (by kernel_rfl) (fun _ _ _ h => h) (Or.inl ⟨by rfl, fun W _ => by first | (go_simp; done) | (go_simp; with_reducible rfl)⟩) hS ?_
      refine wpAnyH_take (i := 10) (v := .pointer (some ⟨qb, 1, none⟩)) rfl (by kernel_rfl) (by kernel_rfl) (by kernel_rfl) (fun _ _ _ h => h) (Or.inl ⟨by rfl, fun W _ => by first | (go_simp; done) | (go_simp; with_reducible rfl)⟩) hS ?_
      refine wpAnyH_ready (rs := [11]) (by kernel_rfl) (by simp) (AllReadyH.cons (o := { dst := none, op := Op.store 22 (Operand.tmp 33) (Operand.tmp 31), type := 0, pos := "ref.go:90", after := #[{ on := 10, ground := Ground.data }, { on := 8, ground := Ground.data }, { on := 8, ground := Ground.chain }, { on := 0, ground := Ground.phase }, { on := 1, ground := Ground.phase }, { on := 2, ground := Ground.phase }, { on := 3, ground := Ground.phase }, { on := 4, ground := Ground.phase }, { on := 5, ground := Ground.phase }, { on := 6, ground := Ground.phase }, { on := 7, ground := Ground.phase }, { on := 8, ground := Ground.phase }], guard := none }) rfl (fun K hK => ?_) AllReadyH.nil)
      go_simp
      refine hK.out _ _ HS5.out (fun hS => ?_)
      clear hK K
      refine wpAnyH_done (by kernel_rfl) ?_ _
      unfold normQ
      clear hap1 hap2 c1 d1 d2 d4 d4f hS
      (try dsimp only)
      go_wp2
      go_ret3
      exact ⟨by first | rfl | simp, HF.out⟩
    · go_simp
      refine hK.out _ _ HS3.out (fun hS => ?_)
      clear hK K
      refine wpAnyH_ready (rs := [4]) (by kernel_rfl) (by simp) (AllReadyH.cons (o := { dst := some 27, op := Op.load 22 (Operand.tmp 26), type := 22, pos := "ref.go:90", after := #[{ on := 3, ground := Ground.data }], guard := none }) rfl (fun K hK => ?_) AllReadyH.nil)
      (first | have c9 := d2 | have c9 := d1 | have c9 := c1)
      go_simp
      refine hK.out _ _ hS (fun hS => ?_)
      clear hK K
      refine wpAnyH_ready (rs := [8]) (by kernel_rfl) (by simp) (AllReadyH.cons (o := { dst := some 31, op := Op.call { callee := Callee.builtin Builtin.append, args := #[Operand.tmp 27, Operand.tmp 30], argTypes := #[22, 22] }, type := 22, pos := "ref.go:90", after := #[{ on := 4, ground := Ground.data }, { on := 7, ground := Ground.data }, { on := 6, ground := Ground.chain }], guard := none }) rfl (fun K hK => ?_) AllReadyH.nil)
      refine step_append_run rfl _ _ _ _ rfl (by first | rfl | (simp [Act.eval]; done) | simp [Act.eval, Act.put]) (by first | rfl | (simp [Act.eval]; done) | simp [Act.eval, Act.put]) hap2 ?_
      (try go_simp)
      refine hK.out _ _ HS4.out (fun hS => ?_)
      clear hK K
      refine wpAnyH_take (i := 9) (v := .pointer (some ⟨qb, 0, none⟩)) rfl (by kernel_rfl) (by kernel_rfl) (by kernel_rfl) (fun _ _ _ h => h) (Or.inl ⟨by rfl, fun W _ => by first | (go_simp; done) | (go_simp; with_reducible rfl)⟩) hS ?_
      refine wpAnyH_take (i := 10) (v := .pointer (some ⟨qb, 1, none⟩)) rfl (by kernel_rfl) (by kernel_rfl) (by kernel_rfl) (fun _ _ _ h => h) (Or.inl ⟨by rfl, fun W _ => by first | (go_simp; done) | (go_simp; with_reducible rfl)⟩) hS ?_
      refine wpAnyH_ready (rs := [11]) (by kernel_rfl) (by simp) (AllReadyH.cons (o := { dst := none, op := Op.store 22 (Operand.tmp 33) (Operand.tmp 31), type := 0, pos := "ref.go:90", after := #[{ on := 10, ground := Ground.data }, { on := 8, ground := Ground.data }, { on := 8, ground := Ground.chain }, { on := 0, ground := Ground.phase }, { on := 1, ground := Ground.phase }, { on := 2, ground := Ground.phase }, { on := 3, ground := Ground.phase }, { on := 4, ground := Ground.phase }, { on := 5, ground := Ground.phase }, { on := 6, ground := Ground.phase }, { on := 7, ground := Ground.phase }, { on := 8, ground := Ground.phase }], guard := none }) rfl (fun K hK => ?_) AllReadyH.nil)
      go_simp
      refine hK.out _ _ HS5.out (fun hS => ?_)
      clear hK K
      refine wpAnyH_done (by kernel_rfl) ?_ _
      unfold normQ
      clear hap1 hap2 c1 d1 d2 d4 d4f hS
      (try dsimp only)
      go_wp2
      go_ret3
      exact ⟨by first | rfl | simp, HF.out⟩
  --@8.@
end
end Go.Proofs.Ytnhmjheipfopoaa.L
