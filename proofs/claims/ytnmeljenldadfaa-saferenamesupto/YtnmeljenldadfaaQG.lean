/- Places that bind their variable: binding. -/
import Derived.Test.YtnmeljenldadfaaQF
namespace Go.Proofs.Ytnmeljenldadfaa
open Go.RowKit Go.Maps Go.Shelf
attribute [local go_sem] Oper.semAt_some

/-- A body as a rule without a head. -/
def bodyRu (a : Option Addr) (b off cap : Nat) (ls : List Li) : Ru := ⟨⟨⟨#[]⟩, none, 0, 0, 0, []⟩, a, b, off, cap, ls⟩
theorem bodyRu_places (a : Option Addr) (b off cap : Nat) (ls : List Li) : placesR (bodyRu a b off cap ls) = placesB 0 ls := by simp [placesR, bodyRu, varsT]
/-- A place in a positive literal. -/
def bindC (ls : List Li) (_ : List (Int × ByteArray)) (p : Int × ByteArray) : Bool := match ls[p.1.toNat]? with
  | some l => l.kind == 1
  | none => false
theorem placesB_mem : ∀ (k : Nat) (ls : List Li) (p : Int × ByteArray), p ∈ placesB k ls → ∃ j, ∃ h : j < ls.length, p.1 = ((k + j : Nat) : Int) ∧ p.2 ∈ varsT ls[j].terms
  | _, [], p, h => by simp [placesB] at h
  | k, l :: ls, p, h => by
    unfold placesB at h
    rcases List.mem_append.1 h with h | h
    · obtain ⟨s, hs, rfl⟩ := List.mem_map.1 h
      exact ⟨0, by simp, by simp, by simpa using hs⟩
    · obtain ⟨j, hj, h1, h2⟩ := placesB_mem (k + 1) ls p h
      exact ⟨j + 1, by simpa using hj, by rw [h1]; congr 1; omega, by simpa using h2⟩
theorem bindC_at {ls : List Li} {p : Int × ByteArray} {pre : List (Int × ByteArray)} {j : Nat} (h : j < ls.length) (hp : p.1 = (j : Int)) : bindC ls pre p = (ls[j].kind == 1) := by
  unfold bindC; rw [hp, Int.toNat_natCast, List.getElem?_eq_getElem h]

theorem binding_any (a : Option Addr) (n c : Nat) (w : World) : Calls Try.prog 35 #[.slice a n c] w fun e w' => e = .returned (.func (.func 56) #[] #[.pointer (some ⟨w.heap.size, 0, none⟩)]) ∧ w' = w.alloc (.cells #[.slice a n c] 25) := by
  go_enter Try.func35, Try.ntmps35
  go_wp2
  go_ret
  exact ⟨rfl, rfl⟩

set_option maxRecDepth 100000 in
set_option maxHeartbeats 4000000 in
theorem bind_seq (Ow : TypeId → Prop) (hOw : ¬ Ow 104 ∧ ¬ Ow 3 ∧ ¬ Ow 51 ∧ ¬ Ow 27) (ls : List Li) (a : Option Addr) (b off cap Bb : Nat) (Hs : Nat → Prop) (w : World) (hM : LisS w a b off ls) (hB : w.cell? ⟨Bb, 0, none⟩ = some (.slice a ls.length cap)) (hs : (bodyRu a b off cap ls).small) (hr : (bodyRu a b off cap ls).reads Hs) (hBb : Hs Bb) (hHs : ∀ i, Hs i → i < w.heap.size) :
    SeqL Ow Try.prog 56 #[.pointer (some ⟨Bb, 0, none⟩)] encIS Hs (sel (bindC ls) (placesB 0 ls)) w := by
  obtain ⟨xs, hxs⟩ : ∃ xs, xs = placesB 0 ls := ⟨_, rfl⟩
  rw [← hxs]
  intro l J Jx W hW hJ hJx hY h0
  have cB : W.cell? ⟨Bb, 0, none⟩ = some (.slice a ls.length cap) := hW.cell hB
  have hMW := hM.stay hW
  have hHW : ∀ i, Hs i → i < W.heap.size := fun i hi => Nat.lt_of_lt_of_le (hHs i hi) hW.size
  clear hM hB hHs hW
  have hBl : Bb < W.heap.size := hHW _ hBb
  have hst := fun w => standing_any (bodyRu a b off cap ls) w
  dsimp only [Ru.v, bodyRu, At.sl, List.length_nil] at hst
  refine (callsIn_wide (n := 8)).1 (callsIn_of_wp_marks Try.func56 rfl trivial ?_ rfl)
  simp only [Try.ntmps56, List.size_toArray, List.length_cons, List.length_nil, Nat.reduceAdd, Nat.reduceSub, Array.replicate_succ, Array.replicate_zero, List.push_toArray, List.append_toArray, List.nil_append, List.cons_append]
  gi_wp2_with (refine ⟨trivial, ?_⟩; gi_at_call 34; refine CallsIn.mono (callsIn_wide.2 (hst _)) ?_; rintro e w' ⟨rfl, rfl⟩)
  obtain ⟨V, hV⟩ : ∃ V, V = (W.alloc (.cells #[.func (.yield l) #[] #[]] 104)).alloc (.cells #[.string ⟨#[]⟩, .slice none 0 0, .slice a ls.length cap] 27) := ⟨_, rfl⟩
  rw [← hV]
  have sV : V.heap.size = W.heap.size + 2 := by rw [hV]; simp
  have stV : Stay W V := by rw [hV]; exact (Stay.new _ _).alloc _
  have v0 : V.heap[W.heap.size]? = some (.cells #[.func (.yield l) #[] #[]] 104 (0, 0)) := by
    rw [hV]; exact (Below.heap_alloc _ _ _ (by simp)).trans (heap_new _ _)
  have v1 : V.heap[W.heap.size + 1]? = some (.cells #[.string ⟨#[]⟩, .slice none 0 0, .slice a ls.length cap] 27 (0, 0)) := by
    have := heap_new (W.alloc (.cells #[.func (.yield l) #[] #[]] 104)) (.cells #[.string ⟨#[]⟩, .slice none 0 0, .slice a ls.length cap] 27)
    rw [hV]; rwa [World.size_alloc] at this
  have f0 : Fr Ow W.heap.size V W.heap.size := ⟨Nat.le_refl _, by omega, not_tyd v0 hOw.1⟩
  have hJV : J 0 V := hJ _ _ _ h0 (Bel.of_stay stV (Nat.le_refl _))
  have hMV := hMW.stay stV
  have cV := stV.cell cB
  have hHV : ∀ i, (Hs i ∨ Fr Ow W.heap.size V i) → i < V.heap.size := fun i hi => by
    rcases hi with hi | hi
    · have := hHW i hi; omega
    · exact hi.2.1
  have hseq := stand_seq Ow ⟨hOw.1, hOw.2.1, hOw.2.2.1⟩ (bodyRu a b off cap ls) (W.heap.size + 1) (fun i => Hs i ∨ Fr Ow W.heap.size V i) V ⟨TmsS.nil _ _ _ _, hMV⟩ v1 hs (hr.mono fun i h => .inl h) (.inr ⟨by omega, by omega, not_tyd v1 hOw.2.2.2⟩) hHV
  rw [bodyRu_places, ← hxs] at hseq
  have hpl : ∀ k (hk : k < xs.length), ∃ j, ∃ h : j < ls.length, xs[k].1 = ((0 + j : Nat) : Int) ∧ xs[k].2 ∈ varsT ls[j].terms := fun k hk => placesB_mem 0 ls _ (hxs ▸ List.getElem_mem hk)
  have hl2 := hs.2.1
  have hrb := hr.2.1
  dsimp only [bodyRu] at hl2 hrb
  clear hV h0 hMW cB hst hxs
  refine' range_list (α := Int × ByteArray) (by decide) (gf := 55) (lb := #[.pointer (some ⟨W.heap.size + 1, 0, none⟩)]) rfl (enters_of Try.func55 (by kernel_rfl) rfl) hseq hHV (fun _ => rfl)
    (fun k A => J (sel (bindC ls) (xs.take k)).length A ∧ Kep Ow Hs W.heap.size V A) (fun c _ A => c = .ret ∧ (∃ j, j < (sel (bindC ls) xs).length ∧ Jx (j + 1) A) ∧ V.heap.size ≤ A.heap.size) (fun k A A' hA hb => ?hI) (fun c k A A' hA hb => ?hIx) ⟨by simpa [sel, selF] using hJV, Kep.refl _ _ _ _⟩ (fun _ W => W) (fun _ W => Stay.refl W) _ ?assign ?body ?done ?stop
  case hI => exact ⟨hJ _ _ _ hA.1 (hb.mono (by omega)), hA.2.below (fun i hi => hHV i (.inl hi)) (Nat.le_refl _) hb⟩
  case hIx =>
    obtain ⟨h1, ⟨j, hj, h2⟩, h3⟩ := hA
    exact ⟨h1, ⟨j, hj, hJx _ _ _ h2 (hb.mono (by omega))⟩, Nat.le_trans h3 hb.size⟩
  case assign =>
    intro l' y W' K hK
    dsimp only [encIS]
    gi_wp2
    exact hK
  case stop =>
    rintro c k A hk ⟨rfl, ⟨j, hj, hI⟩, hz⟩ hdd
    gi_wp2
    exact leaves_marks ((Marks.nil W.heap.size V.heap.size A).cons (T := V.heap.size + 1) V.heap.size (Nat.le_refl _) (by omega) (by omega) hdd) fun w' hw' => ⟨_, results_none rfl _ _ _, ⟨_, rfl⟩, .inr ⟨j, hj, hJx _ _ _ hI hw'⟩⟩
  case done =>
    rintro A ⟨hJA, -⟩ hdd
    rw [List.take_of_length_le (Nat.le_refl _)] at hJA
    have HJ : Hid (J (sel (bindC ls) xs).length A) := hJA
    clear hJA hY hseq
    gi_wp2
    exact leaves_marks ((Marks.nil W.heap.size V.heap.size A).cons (T := V.heap.size + 1) V.heap.size (Nat.le_refl _) (by omega) (by omega) hdd) fun w' hw' => ⟨_, results_none rfl _ _ _, ⟨_, rfl⟩, .inl (hJ _ _ _ HJ.out hw')⟩
  case body =>
    intro l' k hk W' X hX ho hWs hl' hXs
    obtain ⟨hJX, hKX⟩ := hX
    obtain ⟨j, hj, hpj, -⟩ := hpl k hk
    rw [Nat.zero_add] at hpj
    have cY : X.cell? ⟨W.heap.size, 0, none⟩ = some (.func (.yield l) #[] #[]) := by
      have := (hKX.get (.inr f0)).trans v0
      simp [World.cell?, this]
    have cX := hKX.cell (p := ⟨Bb, 0, none⟩) (.inl hBb) cV
    obtain rfl := hMV.1 (by omega)
    have cK := hKX.cell (.inl (hrb (by omega))) (hMV.2 j hj).1
    have hji : (j : Int) < (ls.length : Int) := by omega
    have hst := sel_take (bindC ls) hk
    have hcc := bindC_at (pre := xs.take k) hj hpj
    have HX : Hid (J (sel (bindC ls) (xs.take k)).length X ∧ Kep Ow Hs W.heap.size V X) := ⟨hJX, hKX⟩
    clear hJX hKX ho hseq hJV v1 hMV cV hpl
    cases hc : bindC ls (xs.take k) xs[k]
    · rw [hc] at hst hcc
      have HS : Hid (sel (bindC ls) (xs.take (k + 1)) = sel (bindC ls) (xs.take k)) := by show _ = _; simpa using hst
      generalize xs[k] = p at *
      obtain ⟨pi, ps⟩ := p
      dsimp only at hpj
      subst hpj
      have hcc' := hcc.symm
      generalize ls[j].kind = kd at *
      clear hst hc hY hcc
      dsimp only [encIS] at *
      gi_wp2
      refine ⟨fun _ h => (by cases h), ?_⟩
      gi_wp2
      obtain ⟨hJX, hKX⟩ := HX.out
      exact ⟨Holds.refl _ _, Nat.le_refl _, by rw [HS.out]; exact hJX, hKX⟩
    · obtain ⟨hkk, hat⟩ := sel_at (bindC ls) hk hc
      rw [hc] at hst hcc
      have HS : Hid ((sel (bindC ls) (xs.take (k + 1))).length = (sel (bindC ls) (xs.take k)).length + 1) := by show _ = _; rw [hst]; simp
      obtain ⟨fn, tmps, assign, body, hy, hR⟩ := yield_any (l' := l') (m' := 8 - 1 - 1 - 1) (hY _ hkk X HX.out.1 (by omega))
      rw [hat] at hy
      generalize xs[k] = p at *
      obtain ⟨pi, ps⟩ := p
      dsimp only at hpj
      subst hpj
      have hcc' := hcc.symm
      generalize ls[j].kind = kd at *
      clear hst hc hY hcc hat
      dsimp only [encIS] at *
      gi_wp2
      refine hR.mono ?_
      rintro e9 W3 ⟨hh, hz, (⟨rfl, hJ3⟩ | ⟨rfl, hJx3⟩)⟩
      · have HH : Hid (Kep Ow Hs W.heap.size X W3 ∧ J ((sel (bindC ls) (xs.take k)).length + 1) W3) := ⟨⟨hh, hz⟩, hJ3⟩
        clear hR hh hz hJ3
        gi_wp2
        exact ⟨HX.out.2.join (by omega) HH.out.1.1, HH.out.1.2, by rw [HS.out]; exact HH.out.2, HX.out.2.trans HH.out.1⟩
      · have HH : Hid (Kep Ow Hs W.heap.size X W3 ∧ Jx ((sel (bindC ls) (xs.take k)).length + 1) W3) := ⟨⟨hh, hz⟩, hJx3⟩
        clear hR hh hz hJx3
        gi_wp2
        exact ⟨HX.out.2.join (by omega) HH.out.1.1, HH.out.1.2, rfl, ⟨_, hkk, HH.out.2⟩, by have := HH.out.1.2; omega⟩
end Go.Proofs.Ytnmeljenldadfaa
