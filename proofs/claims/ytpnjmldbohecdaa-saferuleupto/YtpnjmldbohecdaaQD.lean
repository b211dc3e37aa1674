/- The places of a rule's variables: the function over which one goes. -/
import Derived.Test.YtpnjmldbohecdaaQC
namespace Go.Proofs.Ytpnjmldbohecdaa
open Go.RowKit Go.Maps Go.Shelf
attribute [local go_sem] Oper.semAt_some

def Ru.small (x : Ru) : Prop := x.head.ts.length ≤ 1048576 ∧ x.body.length ≤ 1048576 ∧ ∀ l ∈ x.body, l.atom.ts.length ≤ 1048576
def Ru.reads (x : Ru) (Hs : Nat → Prop) : Prop := (0 < x.head.ts.length → Hs x.head.b) ∧ (0 < x.body.length → Hs x.b) ∧ ∀ l ∈ x.body, 0 < l.atom.ts.length → Hs l.atom.b
theorem Ru.reads.mono {x : Ru} {Hs Ht : Nat → Prop} (h : x.reads Hs) (k : ∀ i, Hs i → Ht i) : x.reads Ht := ⟨fun a => k _ (h.1 a), fun a => k _ (h.2.1 a), fun l hl a => k _ (h.2.2 l hl a)⟩
theorem TmsS.holds {w w' : World} {a : Option Addr} {b off : Nat} {ts : List Tm} (h : TmsS w a b off ts) (hs : 0 < ts.length → w'.heap[b]? = w.heap[b]?) : TmsS w' a b off ts :=
  ⟨h.1, fun j hj => by
    have e : ∀ p : Addr, p.block = b → ∀ v, w.cell? p = some v → w'.cell? p = some v := fun p hp v hv => by
      rw [← hv]; exact World.cell?_of_block (by rw [hp]; exact hs (by omega))
    exact ⟨e _ rfl _ (h.2 j hj).1, e _ rfl _ (h.2 j hj).2⟩⟩
theorem head_at (x : Ru) {k : Nat} (hk : k < (varsT x.head.ts).length) : ∃ h : k < (placesR x).length, (placesR x)[k] = (-1, (varsT x.head.ts)[k]) := by
  have h : k < (placesR x).length := by unfold placesR; simp; omega
  refine ⟨h, ?_⟩
  simp only [placesR]
  rw [List.getElem_append_left (by simpa using hk)]
  simp
def upTo (x : Ru) (i : Nat) : Nat := (varsT x.head.ts).length + (placesB 0 (x.body.take i)).length
theorem upTo_zero (x : Ru) : upTo x 0 = (varsT x.head.ts).length := by simp [upTo, placesB]
theorem upTo_succ {x : Ru} {i : Nat} (h : i < x.body.length) : upTo x (i + 1) = upTo x i + (varsT x.body[i].terms).length := by
  unfold upTo; rw [placesB_take h]; simp; omega
theorem upTo_all (x : Ru) : upTo x x.body.length = (placesR x).length := by simp [upTo, placesR]
theorem body_at {x : Ru} {i k : Nat} (h : i < x.body.length) (hk : k < (varsT x.body[i].terms).length) : ∃ h' : upTo x i + k < (placesR x).length, (placesR x)[upTo x i + k] = ((i : Int), (varsT x.body[i].terms)[k]) := by
  have e : placesR x = ((varsT x.head.ts).map (fun s => (-1, s)) ++ placesB 0 (x.body.take i)) ++ ((varsT x.body[i].terms).map (fun s => ((i : Int), s)) ++ placesB (i + 1) (x.body.drop (i + 1))) := by
    unfold placesR; rw [placesB_split h]; simp
  have l : ((varsT x.head.ts).map (fun s => ((-1 : Int), s)) ++ placesB 0 (x.body.take i)).length = upTo x i := by simp [upTo]
  have h' : upTo x i + k < (placesR x).length := by rw [e, List.length_append, l]; simp; omega
  refine ⟨h', ?_⟩
  rw [List.getElem_of_eq e, List.getElem_append_right (by rw [l]; omega)]
  simp only [l, Nat.add_sub_cancel_left]
  rw [List.getElem_append_left (by simpa using hk)]
  simp

set_option maxRecDepth 100000 in
set_option maxHeartbeats 4000000 in
theorem stand_seq (Ow : TypeId → Prop) (hOw : ¬ Ow 87 ∧ ¬ Ow 3 ∧ ¬ Ow 51) (x : Ru) (Br : Nat) (Hs : Nat → Prop) (w : World) (hM : x.In w) (hB : w.heap[Br]? = some (.cells #[.string x.head.pred, x.head.sl, .slice x.a x.body.length x.cap] 27 (0, 0))) (hs : x.small) (hr : x.reads Hs) (hBr : Hs Br) (hHs : ∀ i, Hs i → i < w.heap.size) :
    SeqL Ow Try.prog 42 #[.pointer (some ⟨Br, 0, none⟩)] encIS Hs (placesR x) w := by
  intro l J Jx W hW hJ hJx hY h0
  have hBW : W.heap[Br]? = some (.cells #[.string x.head.pred, x.head.sl, .slice x.a x.body.length x.cap] 27 (0, 0)) := (hW.block Br (Array.getElem?_eq_some_iff.1 hB).1).trans hB
  have hMW := Ru.stay hM hW
  have hHW : ∀ i, Hs i → i < W.heap.size := fun i hi => Nat.lt_of_lt_of_le (hHs i hi) hW.size
  clear hM hB hHs hW
  have cB : W.cell? ⟨Br, 1, none⟩ = some (.slice x.head.a x.head.ts.length x.head.cap) := by simp [World.cell?, hBW, At.sl]
  have hBl : Br < W.heap.size := hHW _ hBr
  refine (callsIn_wide (n := 8)).1 (callsIn_of_wp_marks Try.func42 rfl trivial ?_ rfl)
  simp only [Try.ntmps42, List.size_toArray, List.length_cons, List.length_nil, Nat.reduceAdd, Nat.reduceSub, Array.replicate_succ, Array.replicate_zero, List.push_toArray, List.append_toArray, List.nil_append, List.cons_append]
  gi_wp2_with (refine ⟨trivial, ?_⟩; gi_at_call 35; refine CallsIn.mono (callsIn_wide.2 (variables_any _ _ _ _)) ?_; rintro e w' ⟨rfl, rfl⟩)
  obtain ⟨V, hV⟩ : ∃ V, V = (W.alloc (.cells #[.func (.yield l) #[] #[]] 87)).alloc (.cells #[.slice x.head.a x.head.ts.length x.head.cap] 22) := ⟨_, rfl⟩
  rw [← hV]
  have sV : V.heap.size = W.heap.size + 2 := by rw [hV]; simp
  have stV : Stay W V := by rw [hV]; exact (Stay.new _ _).alloc _
  have v0 : V.heap[W.heap.size]? = some (.cells #[.func (.yield l) #[] #[]] 87 (0, 0)) := by
    rw [hV]; exact (Below.heap_alloc _ _ _ (by simp)).trans (heap_new _ _)
  have v1 : V.cell? ⟨W.heap.size + 1, 0, none⟩ = some (.slice x.head.a x.head.ts.length x.head.cap) := by
    rw [hV]; simp
  have f0 : Fr Ow W.heap.size V W.heap.size := ⟨Nat.le_refl _, by omega, not_tyd v0 hOw.1⟩
  have hJV : J 0 V := hJ _ _ _ h0 (Bel.of_stay stV (Nat.le_refl _))
  have hMV := Ru.stay hMW stV
  have hBV := (stV.block Br hBl).trans hBW
  have hHV : ∀ i, (Hs i ∨ Fr Ow W.heap.size V i) → i < V.heap.size := fun i hi => by
    rcases hi with hi | hi
    · have := hHW i hi; omega
    · exact hi.2.1
  clear hV h0 hMW hBW cB
  refine' range_list (α := ByteArray) (by decide) (gf := 48) (lb := #[.pointer (some ⟨W.heap.size + 1, 0, none⟩)]) rfl (enters_of Try.func48 (by kernel_rfl) rfl)
    (vars_seq Ow x.head.ts x.head.a x.head.b x.head.off x.head.cap (W.heap.size + 1) (fun i => Hs i ∨ Fr Ow W.heap.size V i) V hMV.1 v1 (by have := hs.1; omega) (fun h => .inl (hr.1 h)) hHV) hHV (fun _ => rfl)
    (fun k A => J k A ∧ Kep Ow Hs W.heap.size V A) (fun c k A => c = .ret ∧ Jx k A ∧ V.heap.size ≤ A.heap.size) (fun k A A' hA hb => ?hI) (fun c k A A' hA hb => ?hIx) ⟨hJV, Kep.refl _ _ _ _⟩ (fun _ W => W) (fun _ W => Stay.refl W) _ ?assign ?body ?done ?stop
  case hI => exact ⟨hJ _ _ _ hA.1 (hb.mono (by omega)), hA.2.below (fun i hi => hHV i (.inl hi)) (Nat.le_refl _) hb⟩
  case hIx => exact ⟨hA.1, hJx _ _ _ hA.2.1 (hb.mono (by omega)), Nat.le_trans hA.2.2 hb.size⟩
  case assign =>
    intro l' y W' K hK
    dsimp only [encS]
    gi_wp2
    exact hK
  case body =>
    intro l' k hk W' X hX ho hWs hl' hXs
    obtain ⟨hk', hat⟩ := head_at x hk
    have cY : X.cell? ⟨W.heap.size, 0, none⟩ = some (.func (.yield l) #[] #[]) := by
      have := (hX.2.get (.inr ⟨Nat.le_refl _, by omega, not_tyd v0 hOw.1⟩)).trans v0
      simp [World.cell?, this]
    obtain ⟨fn, tmps, assign, body, hy, hR⟩ := yield_any (l' := l') (m' := 8 - 1 - 1 - 1) (hY k hk' X hX.1 (by omega))
    rw [hat] at hy
    dsimp only [encIS] at hy
    have HX : Hid (Kep Ow Hs W.heap.size V X) := hX.2
    generalize (varsT x.head.ts)[k] = tx at *
    clear hX ho hJV v0 v1 stV hY hat
    gi_wp2
    refine hR.mono ?_
    rintro e9 W3 ⟨hh, hz, (⟨rfl, hJ3⟩ | ⟨rfl, hJx3⟩)⟩
    · have HH : Hid (Kep Ow Hs W.heap.size X W3 ∧ J (k + 1) W3) := ⟨⟨hh, hz⟩, hJ3⟩
      clear hR hh hz hJ3
      gi_wp2
      exact ⟨HX.out.join (by omega) HH.out.1.1, HH.out.1.2, HH.out.2, HX.out.trans HH.out.1⟩
    · have HH : Hid (Kep Ow Hs W.heap.size X W3 ∧ Jx (k + 1) W3) := ⟨⟨hh, hz⟩, hJx3⟩
      clear hR hh hz hJx3
      gi_wp2
      exact ⟨HX.out.join (by omega) HH.out.1.1, HH.out.1.2, rfl, HH.out.2, by have := HH.out.1.2; omega⟩
  case stop =>
    rintro c k A hk ⟨rfl, hI, hz⟩ hdd
    obtain ⟨hk', -⟩ := head_at x hk
    gi_wp2
    exact leaves_marks ((Marks.nil W.heap.size V.heap.size A).cons (T := V.heap.size + 1) V.heap.size (Nat.le_refl _) (by omega) (by omega) hdd) fun w' hw' => ⟨_, results_none rfl _ _ _, ⟨_, rfl⟩, .inr ⟨k, hk', hJx _ _ _ hI hw'⟩⟩
  case done =>
    rintro A ⟨hJA, hKA⟩ hdd
    have cB : A.cell? ⟨Br, 2, none⟩ = some (.slice x.a x.body.length x.cap) := by
      have := (hKA.get (.inl hBr)).trans hBV
      simp [World.cell?, this]
    have hl2 := hs.2.1
    have HI : Hid (J (upTo x 0) A ∧ Kep Ow Hs W.heap.size V A ∧ Marks W.heap.size A.heap.size [{ target := .collected V.heap.size, args := #[] }] A) := ⟨by rw [upTo_zero]; exact hJA, hKA, (Marks.nil W.heap.size V.heap.size A).cons V.heap.size (Nat.le_refl _) (by omega) (Array.getElem?_eq_some_iff.1 hdd).1 hdd⟩
    clear hJA hKA hdd hJV v1 stV
    gi_wp2
    refine wpIn_loop (fun a wr => ∃ (i : Nat) (D : List Deferred) (u3 u4 u5 u6 u7 u8 u9 u10 u11 u12 u13 u14 u15 u16 u20 u21 u22 u23 u24 u25 u26 u27 u28 u29 u30 u31 u32 u33 : Value), i ≤ x.body.length ∧ a = { tmps := #[.func (.yield l) #[] #[], .pointer (some ⟨Br, 0, none⟩), .pointer (some ⟨W.heap.size, 0, none⟩), u3, u4, u5, u6, u7, u8, u9, u10, u11, u12, u13, u14, u15, u16, .slice x.a x.body.length x.cap, .int .i64 (x.body.length : Int), .int .i64 (i : Int), u20, u21, u22, u23, u24, u25, u26, u27, u28, u29, u30, u31, u32, u33], defers := D } ∧ J (upTo x i) wr ∧ Kep Ow Hs W.heap.size V wr ∧ Marks W.heap.size wr.heap.size D wr) (fun a _ => x.body.length - (intOf (a.tmps.getD 19 undef)).toNat) ?start ?round
    case start => exact ⟨0, _, _, _, _, _, _, _, _, _, _, _, _, _, _, _, _, _, _, _, _, _, _, _, _, _, _, _, _, _, Nat.zero_le _, rfl, HI.out⟩
    case round =>
      rintro a wr ⟨i, D, u3, u4, u5, u6, u7, u8, u9, u10, u11, u12, u13, u14, u15, u16, u20, u21, u22, u23, u24, u25, u26, u27, u28, u29, u30, u31, u32, u33, hi, rfl, hJr, hKr, hMk⟩
      by_cases hlt : i < x.body.length
      · have hki : (i : Int) < (x.body.length : Int) := by omega
        have hbb := hr.2.1 (by omega)
        obtain ⟨c0, c1, c2, c3, c4, c5, c6, hin⟩ := hMV.2.2 i hlt
        have hin' : x.body[i].atom.In wr := TmsS.holds hin fun h => hKr.get (.inl (hr.2.2 _ (List.getElem_mem hlt) h))
        have d0 := hKr.cell (.inl hbb) c0
        have d1 := hKr.cell (.inl hbb) c1
        have d2 := hKr.cell (.inl hbb) c2
        have d3 := hKr.cell (.inl hbb) c3
        have d4 := hKr.cell (.inl hbb) c4
        have d5 := hKr.cell (.inl hbb) c5
        have d6 := hKr.cell (.inl hbb) c6
        clear c0 c1 c2 c3 c4 c5 c6 hin
        have hxa := hMV.2.1 (by omega)
        have ht := fun Wt (h : Stay wr Wt) => terms_any x.body[i] Wt (TmsS.stay hin' h)
        have hsm := hs.2.2 _ (List.getElem_mem hlt)
        have hrd := hr.2.2 _ (List.getElem_mem hlt)
        have HB : Hid (∀ k, k < (varsT x.body[i].terms).length → ∃ h' : upTo x i + k < (placesR x).length, ∀ h : k < (varsT x.body[i].terms).length, (placesR x)[upTo x i + k] = ((i : Int), (varsT x.body[i].terms)[k])) := fun k hk => ⟨(body_at hlt hk).1, fun _ => (body_at hlt hk).2⟩
        have HU : Hid (upTo x (i + 1) = upTo x i + (varsT x.body[i].terms).length) := upTo_succ hlt
        have HK : Hid (J (upTo x i) wr ∧ Kep Ow Hs W.heap.size V wr ∧ Marks W.heap.size wr.heap.size D wr) := ⟨hJr, hKr, hMk⟩
        clear hin' hJr hKr hMk
        generalize x.body[i] = li at *
        obtain ⟨kind, ⟨pred, aa, ab, aoff, acap, ats⟩, ⟨lv, lt⟩, ⟨rv, rt⟩⟩ := li
        dsimp only [Li.v, At.sl] at *
        rw [hxa]
        obtain ⟨Wa, hWa⟩ : ∃ Wa, Wa = (wr.alloc (.cells #[.int .i64 (i : Int)] 3)).alloc (.cells #[.int .i64 kind, .string pred, .slice aa ats.length acap, .bool lv, .string lt, .bool rv, .string rt] 53) := ⟨_, rfl⟩
        have sWa : Stay wr Wa := by rw [hWa]; exact (Stay.new _ _).alloc _
        have zWa : Wa.heap.size = wr.heap.size + 2 := by rw [hWa]; simp
        have cI : Wa.cell? ⟨wr.heap.size, 0, none⟩ = some (.int .i64 (i : Int)) := by rw [hWa]; simp
        have hI0 : Wa.heap[wr.heap.size]? = some (.cells #[.int .i64 (i : Int)] 3 (0, 0)) := by rw [hWa]; exact (Below.heap_alloc _ _ _ (by simp)).trans (heap_new _ _)
        gi_wp2_with (first | (refine ⟨trivial, ?_⟩; gi_at_call 36; rw [← hWa]; refine CallsIn.mono (callsIn_wide.2 (ht Wa sWa)) ?_; rintro e w' ⟨a', b', off', c', rfl, hT, hb', hst⟩) | (refine ⟨trivial, ?_⟩; gi_at_call 35; refine CallsIn.mono (callsIn_wide.2 (variables_any _ _ _ _)) ?_; rintro e w'' ⟨rfl, rfl⟩))
        have hTl := Li.terms_len ⟨kind, ⟨pred, aa, ab, aoff, acap, ats⟩, ⟨lv, lt⟩, ⟨rv, rt⟩⟩
        generalize Li.terms ⟨kind, ⟨pred, aa, ab, aoff, acap, ats⟩, ⟨lv, lt⟩, ⟨rv, rt⟩⟩ = T at *
        dsimp only at hTl
        obtain ⟨V2, hV2⟩ : ∃ V2, V2 = w'.alloc (.cells #[.slice a' T.length c'] 22) := ⟨_, rfl⟩
        have zV2 : V2.heap.size = w'.heap.size + 1 := by rw [hV2]; simp
        have zW' := hst.size
        have sV2 : Stay Wa V2 := by rw [hV2]; exact hst.alloc _
        have tV2 : Stay wr V2 := sWa.trans sV2
        have hT2 : TmsS V2 a' b' off' T := by rw [hV2]; exact hT.stay (Stay.new _ _)
        have c2 : V2.cell? ⟨w'.heap.size, 0, none⟩ = some (.slice a' T.length c') := by rw [hV2]; simp
        have cI2 := sV2.cell cI
        have fI : Fr Ow W.heap.size V2 wr.heap.size := ⟨by have := HK.out.2.1.2; omega, by omega, not_tyd ((sV2.block _ (by omega)).trans hI0) hOw.2.1⟩
        obtain ⟨hJr, hKr, hMk⟩ := HK.out
        have hHr : ∀ i, Hs i → i < wr.heap.size := fun i hi => by have := hHW i hi; have := hKr.2; omega
        have hK2 : Kep Ow Hs W.heap.size V V2 := hKr.stay hHr tV2
        have hJ2 : J (upTo x i) V2 := hJ _ _ _ hJr (Bel.of_stay tV2 (by have := hKr.2; omega))
        have hM2 : Marks W.heap.size V2.heap.size D V2 := (hMk.kept (fun r _ h _ => tV2.block r h)).wide tV2.size
        have hHV2 : ∀ i, (Hs i ∨ Fr Ow W.heap.size V2 i) → i < V2.heap.size := fun i hi => by
          rcases hi with hi | hi
          · have := hHr i hi; have := tV2.size; omega
          · exact hi.2.1
        have zK := hKr.2
        rw [← hV2]
        have hst3 : b' < w'.heap.size → V2.heap[b']? = w'.heap[b']? := fun h => by rw [hV2]; exact Below.heap_alloc _ _ _ h
        clear hV2 hT hst HK hJr hKr hMk cI hI0 hWa d0 d1 d2 d3 d4 d5 d6 ht
        refine' range_list (α := ByteArray) (by decide) (gf := 48) (lb := #[.pointer (some ⟨w'.heap.size, 0, none⟩)]) rfl (enters_of Try.func48 (by kernel_rfl) rfl)
          (vars_seq Ow T a' b' off' c' w'.heap.size (fun i => Hs i ∨ Fr Ow W.heap.size V2 i) V2 hT2 c2 (by omega) (fun h => ?hb) hHV2) hHV2 (fun _ => rfl)
          (fun k A => J (upTo x i + k) A ∧ Kep Ow Hs W.heap.size V2 A) (fun c k A => c = .ret ∧ Jx (upTo x i + k) A ∧ Kep Ow Hs W.heap.size V2 A) (fun k A A' hA hb => ?hI2) (fun c k A A' hA hb => ?hIx2) ⟨hJ2, Kep.refl _ _ _ _⟩ (fun _ W => W) (fun _ W => Stay.refl W) _ ?assign2 ?body2 ?done2 ?stop2
        case hb =>
          rcases hb' h with ⟨rfl, h'⟩ | h'
          · exact .inl (hrd h')
          · obtain ⟨g1, g2, cs, f, g3⟩ := h'
            exact .inr ⟨by omega, by omega, not_tyd ((hst3 g2).trans g3) hOw.2.2⟩
        case hI2 => exact ⟨hJ _ _ _ hA.1 (hb.mono (by omega)), hA.2.below (fun i hi => hHV2 i (.inl hi)) (Nat.le_refl _) hb⟩
        case hIx2 => exact ⟨hA.1, hJx _ _ _ hA.2.1 (hb.mono (by omega)), hA.2.2.below (fun i hi => hHV2 i (.inl hi)) (Nat.le_refl _) hb⟩
        case assign2 =>
          intro l' y W' K hK
          dsimp only [encS]
          gi_wp2
          exact hK
        case body2 =>
          intro l' k hk W' X hX ho hWs hl' hXs
          obtain ⟨hk', hat⟩ := HB.out k hk
          have hat := hat hk
          have cY : X.cell? ⟨W.heap.size, 0, none⟩ = some (.func (.yield l) #[] #[]) := by
            have := (hX.2.get (.inr (hK2.fr f0))).trans ((hK2.get (.inr f0)).trans v0)
            simp [World.cell?, this]
          have cI : X.cell? ⟨wr.heap.size, 0, none⟩ = some (.int .i64 (i : Int)) := hX.2.cell (.inr fI) cI2
          obtain ⟨fn, tmps, assign, body, hy, hR⟩ := yield_any (l' := l') (m' := 8 - 1 - 1 - 1) (hY _ hk' X hX.1 (by omega))
          rw [hat] at hy
          dsimp only [encIS] at hy
          have HX : Hid (Kep Ow Hs W.heap.size V2 X) := hX.2
          generalize (varsT T)[k] = tx at *
          clear hX ho hJ2 v0 c2 cI2 hT2 hY hat hK2 hM2 HB HU
          gi_wp2
          refine hR.mono ?_
          rintro e9 W3 ⟨hh, hz, (⟨rfl, hJ3⟩ | ⟨rfl, hJx3⟩)⟩
          · have HH : Hid (Kep Ow Hs W.heap.size X W3 ∧ J (upTo x i + k + 1) W3) := ⟨⟨hh, hz⟩, hJ3⟩
            clear hR hh hz hJ3
            gi_wp2
            exact ⟨HX.out.join (by omega) HH.out.1.1, HH.out.1.2, HH.out.2, HX.out.trans HH.out.1⟩
          · have HH : Hid (Kep Ow Hs W.heap.size X W3 ∧ Jx (upTo x i + k + 1) W3) := ⟨⟨hh, hz⟩, hJx3⟩
            clear hR hh hz hJx3
            gi_wp2
            exact ⟨HX.out.join (by omega) HH.out.1.1, HH.out.1.2, rfl, HH.out.2, HX.out.trans HH.out.1⟩
        case stop2 =>
          rintro c k A hk ⟨rfl, hI, hz⟩ hdd
          obtain ⟨hk', -⟩ := HB.out k hk
          have hMA : Marks W.heap.size (V2.heap.size + 1) ({ target := .collected V2.heap.size, args := #[] } :: D) A := (hM2.kept (fun r h1 h2 h3 => hz.get (.inr ⟨h1, h2, not_tyd_o h3 rfl⟩))).cons V2.heap.size (Nat.le_refl _) (by omega) (by omega) hdd
          gi_wp2
          exact leaves_marks hMA fun w' hw' => ⟨_, results_none rfl _ _ _, ⟨_, rfl⟩, .inr ⟨_, hk', hJx _ _ _ hI hw'⟩⟩
        case done2 =>
          rintro A ⟨hJA, hKA⟩ hdd
          have hMA : Marks W.heap.size A.heap.size ({ target := .collected V2.heap.size, args := #[] } :: D) A := (hM2.kept (fun r h1 h2 h3 => hKA.get (.inr ⟨h1, h2, not_tyd_o h3 rfl⟩))).cons V2.heap.size (Nat.le_refl _) (by omega) (Array.getElem?_eq_some_iff.1 hdd).1 hdd
          have HH : Hid (J (upTo x (i + 1)) A ∧ Kep Ow Hs W.heap.size V A ∧ Marks W.heap.size A.heap.size ({ target := .collected V2.heap.size, args := #[] } :: D) A) := ⟨by rw [HU.out]; exact hJA, hK2.trans hKA, hMA⟩
          clear hJA hKA hdd hMA hJ2 hK2 hM2 HU HB hY
          gi_wp2
          refine ⟨⟨i + 1, _, _, _, _, _, _, _, _, _, _, _, _, _, _, _, _, _, _, _, _, _, _, _, _, _, _, _, _, _, by omega, by rw [Int.natCast_add]; rfl, HH.out⟩, ?_⟩
          simp [intOf]
          omega
      · obtain rfl : i = x.body.length := by omega
        rw [upTo_all] at hJr
        have HH : Hid (J (placesR x).length wr ∧ Marks W.heap.size wr.heap.size D wr) := ⟨hJr, hMk⟩
        clear hJr hKr hMk hY
        gi_wp2
        exact leaves_marks HH.out.2 fun w' hw' => ⟨_, results_none rfl _ _ _, ⟨_, rfl⟩, .inl (hJ _ _ _ HH.out.1 hw')⟩
end Go.Proofs.Ytpnjmldbohecdaa
