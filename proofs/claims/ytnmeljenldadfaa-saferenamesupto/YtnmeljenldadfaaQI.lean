/- bindersOf: the walk. -/
import Derived.Test.YtnmeljenldadfaaQH
namespace Go.Proofs.Ytnmeljenldadfaa
open Go.RowKit Go.Maps Go.Shelf
attribute [local go_sem] Oper.semAt_some

theorem new_cell (A : World) (v : Value) (t : TypeId) : (A.alloc (.cells #[v] t)).cell? ⟨A.heap.size, 0, none⟩ = some v := by
  unfold World.cell?
  dsimp only
  rw [heap_new]
  rfl
/-- What a body binds, place by place. -/
def bindP (ls : List Li) : List (Int × ByteArray) := sel (bindC ls) (placesB 0 ls)
def Bnds (ls : List Li) (w : World) (e : Ending) (w' : World) : Prop := ∃ bm, e = .returned (.map (some bm)) ∧ BndM w' bm (bindP ls) ∧ w.heap.size ≤ bm ∧ Stay w w'

set_option maxRecDepth 100000 in
set_option maxHeartbeats 4000000 in
theorem bindersOf_any (ls : List Li) (a : Option Addr) (b off cap : Nat) (w : World) (hM : LisS w a b off ls) (hs : (bodyRu a b off cap ls).small) (hr : (bodyRu a b off cap ls).reads (fun i => i < w.heap.size)) (ht : ∀ p ∈ bindP ls, p.2.size ≤ 1048576) (hn : (bindP ls).length < 1099511627776000) (hi : ∀ p ∈ bindP ls, (Lit.int .i64 p.1).wf = true) :
    Calls Try.prog 36 #[.slice a ls.length cap] w (Bnds ls w) := by
  have hmk := run_mapB
  obtain ⟨xs, hxs⟩ : ∃ xs, xs = bindP ls := ⟨_, rfl⟩
  unfold Bnds
  rw [← hxs] at ht hn hi ⊢
  refine (callsIn_wide (n := 8)).1 (callsIn_of_wp_marks Try.func36 rfl trivial ?_ rfl)
  simp only [Try.ntmps36, List.size_toArray, List.length_cons, List.length_nil, Nat.reduceAdd, Nat.reduceSub, Array.replicate_succ, Array.replicate_zero, List.push_toArray, List.append_toArray, List.nil_append, List.cons_append]
  gi_wp2_with (refine ⟨trivial, ?_⟩; gi_at_call 35; refine CallsIn.mono (callsIn_wide.2 (binding_any _ _ _ _)) ?_; rintro e w' ⟨rfl, rfl⟩)
  obtain ⟨V, hV⟩ : ∃ V, V = ((w.alloc (.map #[] 0)).alloc (.cells #[.map (some w.heap.size)] 79)).alloc (.cells #[.slice a ls.length cap] 25) := ⟨_, rfl⟩
  rw [← hV]
  have sV : V.heap.size = w.heap.size + 3 := by rw [hV]; simp
  have stV : Stay w V := by rw [hV]; exact ((Stay.new _ _).alloc _).alloc _
  have v0 : BndM V w.heap.size [] := by
    rw [hV]; exact ((bndM_new w).stay (Stay.new _ _)).stay (Stay.new _ _)
  have v1 : V.heap[w.heap.size + 1]? = some (.cells #[.map (some w.heap.size)] 79 (0, 0)) := by
    have := heap_new (w.alloc (.map #[] 0)) (.cells #[.map (some w.heap.size)] 79)
    rw [World.size_alloc] at this
    rw [hV]; exact (Below.heap_alloc _ _ _ (by simp)).trans this
  have v2 : V.cell? ⟨w.heap.size + 1 + 1, 0, none⟩ = some (.slice a ls.length cap) := by
    have := new_cell ((w.alloc (.map #[] 0)).alloc (.cells #[.map (some w.heap.size)] 79)) (.slice a ls.length cap) 25
    rw [World.size_alloc, World.size_alloc] at this
    rw [hV]; exact this
  have hHV : ∀ i, (i < w.heap.size ∨ i = w.heap.size + 1 + 1) → i < V.heap.size := fun i hi => by omega
  have hseq := bind_seq (fun _ => False) ⟨id, id, id, id⟩ ls a b off cap (w.heap.size + 1 + 1) (fun i => i < w.heap.size ∨ i = w.heap.size + 1 + 1) V (hM.stay stV) v2 hs (hr.mono fun i h => .inl h) (.inr rfl) hHV
  rw [show sel (bindC ls) (placesB 0 ls) = xs from hxs.symm] at hseq
  clear hV hxs hmk v2
  refine' range_list (α := Int × ByteArray) (by decide) (gf := 56) (lb := #[.pointer (some ⟨w.heap.size + 1 + 1, 0, none⟩)]) rfl (enters_of Try.func56 (by kernel_rfl) rfl) hseq hHV (fun _ => rfl)
    (fun k A => BndM A w.heap.size (xs.take k) ∧ A.heap[w.heap.size + 1]? = V.heap[w.heap.size + 1]? ∧ Below w.heap.size w A ∧ V.heap.size ≤ A.heap.size) (fun _ _ _ => False) (fun k A A' hA hb => ?hI) (fun c k A A' hA hb => hA) ⟨by simpa using v0, rfl, stV, Nat.le_refl _⟩ (fun _ W => W) (fun _ W => Stay.refl W) _ ?assign ?body ?done ?stop
  case hI => exact ⟨hA.1.keep (hb.block _ (by omega)), (hb.block _ (by omega)).trans hA.2.1, hA.2.2.1.trans (Below.mono hb.1 (by omega)), Nat.le_trans hA.2.2.2 hb.size⟩
  case assign =>
    intro l' y W' K hK
    dsimp only [encIS]
    gi_wp2
    exact hK
  case stop => exact fun _ _ _ _ h => h.elim
  case done =>
    rintro A ⟨hA1, hA2, hA3, hA4⟩ hdd
    rw [List.take_of_length_le (Nat.le_refl _)] at hA1
    have cM : A.cell? ⟨w.heap.size + 1, 0, none⟩ = some (.map (some w.heap.size)) := by
      have := hA2.trans v1
      simp [World.cell?, this]
    have HA : Hid (BndM A w.heap.size xs ∧ Below w.heap.size w A) := ⟨hA1, hA3⟩
    clear hA1 hA2 hA3 hseq v0 v1
    gi_wp2
    refine leaves_marks (T := fun _ => False) ((Marks.nil (w.heap.size + 2) V.heap.size A).cons (T := V.heap.size + 1) V.heap.size (Nat.le_refl _) (by omega) (by omega) hdd) fun w' hw' => ⟨_, results_tmp rfl _ _ _, w.heap.size, rfl, HA.out.1.keep (hw'.block _ (by omega)), Nat.le_refl _, HA.out.2.trans (Below.mono hw'.1 (by omega))⟩
  case body =>
    intro l' k hk W' X hX ho hWs hl' hXs
    obtain ⟨hB, hA2, hA3, hA4⟩ := hX
    have cM : X.cell? ⟨w.heap.size + 1, 0, none⟩ = some (.map (some w.heap.size)) := by
      have := hA2.trans v1
      simp [World.cell?, this]
    have hkey := keyS (ht _ (List.getElem_mem hk))
    have hwf := hi _ (List.getElem_mem hk)
    have htk : xs.take (k + 1) = xs.take k ++ [xs[k]] := by rw [List.take_add_one, List.getElem?_eq_getElem hk]; rfl
    have HB : Hid (BndM X w.heap.size (xs.take k) ∧ X.heap[w.heap.size + 1]? = V.heap[w.heap.size + 1]? ∧ Below w.heap.size w X ∧ V.heap.size ≤ X.heap.size) := ⟨hB, hA2, hA3, hA4⟩
    obtain ⟨D, hD, h2, h3⟩ := hB
    have hh := h2 xs[k].2
    have HT : Hid (xs.take (k + 1) = xs.take k ++ [xs[k]]) := htk
    have hlt : (xs.take k).length < maxLen := by rw [List.length_take]; unfold maxLen; omega
    have HD : Hid (IsMap D ∧ (∀ s, has D (keyB s) = inB (namesP (xs.take k)) s) ∧ ∀ s, D.atKey (keyB s) (.lit (.int .i64 0)) = .lit (.int .i64 (firstAt (xs.take k) s))) := ⟨(hD.tidy lawS).isMap, h2, h3⟩
    clear h2 h3 hA2 hA3 hA4 ho hseq htk v0
    cases hc : inB (namesP (xs.take k)) xs[k].2
    · rw [hc] at hh
      have HN : Hid (xs[k].2 ∉ namesP (xs.take k)) := (inB_no _ _).1 hc
      generalize xs[k] = p at *
      obtain ⟨pi, ps⟩ := p
      dsimp only [encIS] at *
      clear hc
      gi_wp2_with (first | (gi_at_lookup; refine wpListIn_lookup_own_ok_int _ rfl _ _ _ rfl 9 3 .i64 lawS Try.underlying79 Try.underlying3 (zeroI _) w.heap.size _ D rfl hD _ _ rfl hkey ?_; intro c hat hwc; rw [hh]) | (gi_at_mapUpdate; refine wpListIn_mapUpdate_own _ rfl _ _ _ _ rfl 9 3 lawS Try.underlying79 _ w.heap.size _ D rfl hD hlt _ _ _ rfl rfl hkey _ [] (plainElem_int Try.underlying3 hwf) ?_; intro w1 hD1 hg1))
      obtain ⟨hB, hA2, hA3, hA4⟩ := HB.out
      refine ⟨grown_holds hg1 fun i hi => hi.elim (fun hi => by omega) (fun hi => by have g1 := hi.1; have g2 := hi.2.1; omega), hg1.size, by rw [HT.out]; exact BndM.added (p := (pi, ps)) HD.out.1 HN.out HD.out.2.1 HD.out.2.2 hD1, (hg1.block _ (by omega) (by simp)).trans hA2, hA3.trans (grown_below hg1 (by omega) (Nat.le_refl _)), Nat.le_trans hA4 hg1.size⟩
    · rw [hc] at hh
      have HN : Hid (xs[k].2 ∈ namesP (xs.take k)) := (inB_iff _ _).1 hc
      generalize xs[k] = p at *
      obtain ⟨pi, ps⟩ := p
      dsimp only [encIS] at *
      clear hc
      gi_wp2_with (first | (gi_at_lookup; refine wpListIn_lookup_own_ok_int _ rfl _ _ _ rfl 9 3 .i64 lawS Try.underlying79 Try.underlying3 (zeroI _) w.heap.size _ D rfl hD _ _ rfl hkey ?_; intro c hat hwc; rw [hh]))
      obtain ⟨hB, hA2, hA3, hA4⟩ := HB.out
      exact ⟨Holds.refl _ _, Nat.le_refl _, by rw [HT.out]; exact hB.there (p := (pi, ps)) HN.out, hA2, hA3, hA4⟩
end Go.Proofs.Ytnmeljenldadfaa
