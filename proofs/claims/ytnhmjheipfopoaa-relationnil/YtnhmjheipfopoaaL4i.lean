/- join: the second tuple with its key. -/
import Derived.Test.YtnhmjheipfopoaaL4h
namespace Go.Proofs.Ytnhmjheipfopoaa.L
open Go.RowKit Go.Maps Go.Proofs.Ytnhmjheipfopoaa

theorem infoInts : (Try.prog.info? 23).map (fun i => (i.zero, i.size, i.bytes)) = some (some (.slice none 0 0), 1, 24) := by kernel_rfl

theorem own_form {w : World} {t : TypeId} {v : Value} {n : Nat} {xs : List Value} (h : w.ownsRow 0 t 1 v n xs) (hx : n ≠ 0) : ∃ g cap, v = .slice (some ⟨g, 0, none⟩) n cap := by
  rcases h.2 with ⟨_, h2⟩ | ⟨g, cap, cur, hv, _⟩
  · exact absurd h2 hx
  · exact ⟨g, cap, hv⟩

theorem wrap_neg (n : Nat) (h : n ≤ 68719476736) : IntKind.i64.wrap (-((n : Int) + 1)) = -((n : Int) + 1) := by
  rw [IntKind.wrap_i64]; omega

theorem new_cells' (w : World) (l : List Value) (t : TypeId) (n : Nat) (hn : n = w.heap.size) : ∀ j u, l[j]? = some u → (w.alloc (.cells l.toArray t)).cell? ((⟨n, 0, none⟩ : Addr).add j) = some u := by
  subst hn; exact new_cells w l t

section
variable {W W' : World} {F : Nat → Prop} {xb c : Nat} {T : List (List Int)} {tb : Nat} {fp : List LK} {cv : Value} {pb N len reach : Nat} {came : List E} {places : List Nat} {lv : Value} {vs : List Value} {ls : List (List Nat)} {kd : Nat → Nat}

set_option maxRecDepth 100000 in
set_option maxHeartbeats 2000000 in
theorem join_second (h : Lk W F xb c T tb fp cv pb N len reach came places lv vs ls kd) (hT : T.length + 1 ≤ 68719476736) (a : Option Addr) (b o cap : Nat) (t : List Int) (hI : IntsS W a b o t) (hl : t.length ≤ maxLen) (hw : Lib.bitLen c ≤ t.length)
    {i : Nat} {e : E} (he : came[i]? = some e) (hek : e.key.l = cutL t c) {p : Nat} (hev : e.val = p) :
    Calls Try.prog 43 #[.pointer (some ⟨xb, 0, none⟩), .slice a t.length cap, .int .i64 T.length] W fun e w' => e = .returned (.tuple #[]) ∧ LkS w' (Grow F W.heap.size w') xb c (T ++ [t]) ∧ Turn F W w' := by
  have hcut := cut_any W a b o cap c t hI hl h.col hw
  have hcl : (cutL t c).length ≤ maxLen := by
    have := cols_len c 16
    unfold cutL maxLen; rw [List.length_map]; omega
  have c0 := h.c0
  have c1 := h.c1
  have hth := h.cont.there i e he
  obtain ⟨i0, hi, hz0, hz1, hz2⟩ := info_parts infoInts
  have HH : Hid (Lk W F xb c T tb fp cv pb N len reach came places lv vs ls kd) := h
  have HE : Hid (came[i]? = some e ∧ e.there = true ∧ e.key.l = cutL t c ∧ e.val = p) := ⟨he, hth, hek, hev⟩
  have hfew := h.cont.few
  have hll := h.lst.len
  clear h hI
  go_enter Try.func43, Try.ntmps43
  go_wp2_with fail
  refine hcut.mono ?_
  rintro e1 w1 ⟨v, rfl, hown, hs1⟩
  obtain ⟨k, rfl, hk, hIk, hkl, hkb⟩ := own_key hown hcl
  have h1 := HH.out.stay hs1
  have hg := get_yes (h1.ask k hIk hkl (fun q hf => by have := HH.out.lt _ hf; have := (hkb q).1; omega)) k (List.mem_cons_self ..) he hth (by simp [sm, hek, hk])
  rw [hev] at hg
  have c1' := hs1.cell c1
  have HK : Hid (k.l = cutL t c ∧ IntsS w1 k.a k.b k.off k.l ∧ k.l.length ≤ maxLen ∧ (0 < k.l.length → W.heap.size ≤ k.b ∧ k.b < w1.heap.size) ∧ Stay W w1) := ⟨hk, hIk, hkl, hkb, hs1⟩
  have hp0 : ¬ (p : Int) < 0 := by omega
  clear hcut hown hs1 hk hIk hkl hkb h1 c0 c1 he hth hek hev
  go_wp2_with fail
  refine hg.mono ?_
  rintro e2 w2 ⟨rfl, hs2⟩
  have hsW : Stay W w2 := HK.out.2.2.2.2.trans hs2
  have HM2 : Hid (∃ kd2, Mk w2 (Grow F W.heap.size w2) xb c tb (k :: fp) cv pb N len reach came places lv vs ls kd2) := by
    obtain ⟨_, hIk, hkl, hkb, _⟩ := HK.out
    exact (HH.out.mk'.stay hsW).ask (hIk.stay hs2) hkl (fun q => ⟨(hkb q).1, Nat.lt_of_lt_of_le (hkb q).2 hs2.size⟩) (fun j hj => HH.out.lt j hj)
  have H2 : Hid (Stay W w2) := hsW
  obtain ⟨kd2, hM2⟩ := HM2.out
  have c1'' := hs2.cell c1'
  have c2 : w2.cell? ⟨xb, 2, none⟩ = some lv := by simp [World.cell?, hM2.box]
  have hownL := hM2.lst.own
  have HMM : Hid (Mk w2 (Grow F W.heap.size w2) xb c tb (k :: fp) cv pb N len reach came places lv vs ls kd2) := hM2
  have hown0 : (((w2.alloc (.cells #[.int .i64 p, .int .i64 T.length] 3)).alloc (.cells #[.slice (some ⟨w2.heap.size, 0, none⟩) 2 2] 23))).ownsRow 0 23 1 lv vs.length vs := (hownL.alloc _).alloc _
  have HV : Hid (OwnI w2.heap.size ((w2.alloc (.cells #[.int .i64 p, .int .i64 T.length] 3)).alloc (.cells #[.slice (some ⟨w2.heap.size, 0, none⟩) 2 2] 23)) (.slice (some ⟨w2.heap.size, 0, none⟩) 2 2) ([p, T.length].map Int.ofNat)) :=
    (own_block (zs := [p, T.length].map Int.ofNat) (Nat.le_refl _) (heap_new _ _) (by unfold maxLen; simp)).stay (Stay.new _ _)
  have hvl : vs.length ≤ 68719476736 := by omega
  have HLL : Hid (vs.length = ls.length) := hll
  clear hll
  clear hg hs2 c1' hsW hM2 hownL HM2
  go_wp2_with (at_builtin; refine wpList_append_own_at _ rfl _ _ 22 rfl 0 23 i0 _ 1 24 Try.underlying22 hi hz0 hz1 hz2 rfl (by decide) lv vs.length vs rfl hown0 ⟨w2.heap.size + 1, 0, none⟩ 1 1 [.slice (some ⟨w2.heap.size, 0, none⟩) 2 2] rfl rfl (new_cells' _ _ _ _ (by simp)) (by simp [Value.oneCell']) (by unfold maxLen; omega) (by omega) (Nat.zero_le _) ?_; intro lv' w3 hown3 hgrow hnil hloc; obtain ⟨g3, cap3, rfl⟩ := own_form hown3 (by omega); obtain ⟨kd3, hM3, hT3, d2, f2⟩ := HMM.out.snoc (base := w2.heap.size) (Nat.le_refl _) ((Stay.new w2 _).alloc _) HV.out ⟨_, rfl⟩ hown3 hgrow hloc; have H3 : Hid _ := And.intro hM3 hT3; clear hown3 hgrow hnil hloc hM3 hT3 hown0 c2)
  obtain ⟨hM3, hT3⟩ := H3.out
  have HW34 : Hid (w3.heap.size ≤ (w3.setCell ⟨xb, 2, none⟩ (.slice (some ⟨g3, 0, none⟩) (vs.length + 1) cap3)).heap.size) := by show (_ : Nat) ≤ _; simp [World.setCell]
  generalize w3.setCell ⟨xb, 2, none⟩ (.slice (some ⟨g3, 0, none⟩) (vs.length + 1) cap3) = w4 at hM3 hT3 HW34 ⊢
  have e1 : w4.cell? ⟨xb, 1, none⟩ = some (.pointer (some ⟨tb, 0, none⟩)) := by simp [World.cell?, hM3.box]
  have e2 : w4.cell? ⟨xb, 2, none⟩ = some (.slice (some ⟨g3, 0, none⟩) (vs.length + 1) cap3) := by simp [World.cell?, hM3.box]
  have hput : Calls Try.prog 63 #[.pointer (some ⟨tb, 0, none⟩), k.v, .int .i64 (-((vs.length : Int) + 1))] w4.drew fun e' w' => e' = .returned (.tuple #[.int .i64 p, .bool true, .int .i64 0]) ∧ LkS w' (Grow F W.heap.size w') xb c (T ++ [t]) ∧ Turn F W w' := by
    obtain ⟨he, hth, hek, hev⟩ := HE.out
    obtain ⟨hk, _, _, _, hs1⟩ := HK.out
    have hM4 := hM3.stay (Stay.drew w4)
    have hp := put_yes hM4.tab k (List.mem_cons_self ..) (-((vs.length : Int) + 1)) he hth (by simp [sm, hek, hk])
    rw [hev] at hp
    refine hp.mono ?_
    rintro e5 w5 ⟨rfl, hT5, hTn5⟩
    have hM5 := hM4.put hT5 hTn5
    have hc5 := HH.out.cont.second (t := t) he hek hev
    rw [← HLL.out] at hc5
    have hsz2 := H2.out.size
    have hsz4 := hT3.size
    have hsz5 := hTn5.size
    have hdz : w4.drew.heap.size = w4.heap.size := rfl
    have hlW := HH.out.lt
    have hS34 : w3.heap.size ≤ w4.heap.size := HW34.out
    refine ⟨rfl, LkS.grow ⟨_, _, _, _, _, _, _, _, _, _, _, _, _, hM5.lk hc5 HH.out.col ?_⟩ ?_ ?_, ((Turn.of_stay H2.out).then hT3 ?_).then ((Turn.of_stay (S := foot tb pb cv) (Stay.drew w4)).trans hTn5) ?_⟩
    · intro t' ht'
      rcases List.mem_append.1 ht' with h1 | h1
      · exact HH.out.wide t' h1
      · rw [List.mem_singleton.1 h1]; exact hw
    · rintro j ((h1 | h1) | h1)
      · exact .inl h1
      · exact .inr ⟨h1.1, by omega⟩
      · exact .inr ⟨by omega, by omega⟩
    · rintro j (h1 | h1)
      · have := hlW j h1; omega
      · exact h1.2
    · rintro j hj (h1 | h1)
      · exact h1
      · omega
    · intro j hj h1
      exact HH.out.own.2.1 j h1
  have hwr := wrap_neg vs.length hvl
  rw [← hwr] at hput
  clear hM3 hT3 H3 HMM HV d2 f2 c1'' HW34 hwr
  go_region_with (go_at_call 63; refine hput.mono ?_; rintro e5 w5 ⟨rfl, hr⟩; have HR : Hid _ := hr; clear hr)
  all_goals go_end0
  all_goals exact ⟨rfl, HR.out⟩
end
end Go.Proofs.Ytnhmjheipfopoaa.L
