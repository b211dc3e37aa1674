/- The literal behind which all variables of a literal are bound: last; is a literal of the three kinds; are all variables of a body bound: all. -/
import Derived.Test.YtpnjmldbohecdaaQJ
import Derived.Test.YtpnjmldbohecdaaEB
namespace Go.Proofs.Ytpnjmldbohecdaa
open Go.RowKit Go.Maps Go.Shelf
attribute [local go_sem] Oper.semAt_some

def ofThree (l : Li) : Bool := l.kind == 1 || l.kind == 2 || l.kind == 3
theorem ofThree_any (l : Li) (w : World) : Calls Try.prog 44 #[l.v] w fun e w' => e = .returned (.bool (ofThree l)) ∧ Stay w w' := by
  obtain ⟨kind, ⟨pred, a, b, off, cap, ts⟩, ⟨lv, lt⟩, ⟨rv, rt⟩⟩ := l
  dsimp only [Li.v, At.sl, ofThree]
  by_cases h1 : kind = 1
  · subst h1
    go_enter Try.func44, Try.ntmps44
    go_wp2
    go_ret
    exact ⟨rfl, Stay.new _ _⟩
  · by_cases h2 : kind = 2
    · subst h2
      go_enter Try.func44, Try.ntmps44
      go_wp2
      go_ret
      exact ⟨rfl, Stay.new _ _⟩
    · by_cases h3 : kind = 3
      · subst h3
        go_enter Try.func44, Try.ntmps44
        go_wp2
        go_ret
        exact ⟨rfl, Stay.new _ _⟩
      · have e1 : (kind == 1) = false := by simpa using h1
        have e2 : (kind == 2) = false := by simpa using h2
        have e3 : (kind == 3) = false := by simpa using h3
        go_enter Try.func44, Try.ntmps44
        go_wp2
        go_ret
        exact ⟨by rw [e1, e2, e3]; rfl, Stay.new _ _⟩

/-- The greatest of the numbers of the literals that first bind these variables. -/
def lastS (ps : List (Int × ByteArray)) (ss : List ByteArray) : Int := ss.foldl (fun m s => max m (firstAt ps s)) 0
theorem lastS_take {ps : List (Int × ByteArray)} {ss : List ByteArray} {k : Nat} (h : k < ss.length) : lastS ps (ss.take (k + 1)) = max (lastS ps (ss.take k)) (firstAt ps ss[k]) := by
  unfold lastS
  rw [List.take_add_one, List.getElem?_eq_getElem h, Option.toList_some, List.foldl_append]
  rfl

set_option maxRecDepth 100000 in
set_option maxHeartbeats 4000000 in
theorem last_any (l : Li) (w : World) (hl : l.fit w) (bm : Nat) (ps : List (Int × ByteArray)) (hB : BndM w bm ps) : Calls Try.prog 45 #[.map (some bm), l.v] w fun e w' => e = .returned (.int .i64 (lastS ps (varsT l.terms))) ∧ Stay w w' := by
  have htl := Li.terms_len l
  have hfw := hl.few
  have hsh : ∀ s ∈ varsT l.terms, s.size ≤ 1048576 := fun s hs => by
    obtain ⟨t, ht, -, rfl⟩ := varsT_mem hs
    rcases terms_mem ht with h | rfl | rfl
    · exact hl.shorts.1 t h
    · exact hl.shorts.2.1
    · exact hl.shorts.2.2
  obtain ⟨V, hV⟩ : ∃ V, V = ((w.alloc (.cells #[.map (some bm)] 66)).alloc (.cells #[.int .i64 l.kind, .string l.atom.pred, .slice l.atom.a l.atom.ts.length l.atom.cap, .bool l.left.var, .string l.left.text, .bool l.right.var, .string l.right.text] 53)).alloc (.cells #[.int .i64 0] 3) := ⟨_, rfl⟩
  have sV : Stay w V := by rw [hV]; exact ((Stay.new _ _).alloc _).alloc _
  have zV : V.heap.size = w.heap.size + 3 := by rw [hV]; simp
  have v0 : V.heap[w.heap.size]? = some (.cells #[.map (some bm)] 66 (0, 0)) := by
    rw [hV]; exact (Below.heap_alloc _ _ _ (by simp only [World.size_alloc]; omega)).trans ((Below.heap_alloc _ _ _ (by simp)).trans (heap_new _ _))
  have v2 : V.heap[w.heap.size + 1 + 1]? = some (.cells #[.int .i64 0] 3 (0, 0)) := by
    have := heap_new ((w.alloc (.cells #[.map (some bm)] 66)).alloc (.cells #[.int .i64 l.kind, .string l.atom.pred, .slice l.atom.a l.atom.ts.length l.atom.cap, .bool l.left.var, .string l.left.text, .bool l.right.var, .string l.right.text] 53)) (.cells #[.int .i64 0] 3)
    rw [World.size_alloc, World.size_alloc] at this
    rw [hV]; exact this
  have ht := terms_any l V (TmsS.stay hl.ins sV)
  have hBV := hB.stay sV
  have hbl := hB.lt
  obtain ⟨T, hT⟩ : ∃ T, T = l.terms := ⟨_, rfl⟩
  have HA : Hid (0 < l.atom.ts.length → l.atom.b < w.heap.size) := fun h0 => tms_lt hl.ins h0
  unfold TermsAt at ht
  rw [← hT] at ht htl hsh ⊢
  obtain ⟨ss, hss⟩ : ∃ ss, ss = varsT T := ⟨_, rfl⟩
  rw [← hss] at hsh ⊢
  clear hT hl hB
  obtain ⟨kind, ⟨pred, aa, ab, aoff, acap, ats⟩, ⟨lv, lt⟩, ⟨rv, rt⟩⟩ := l
  dsimp only [Li.v, At.sl] at *
  refine (callsIn_wide (n := 8)).1 (callsIn_of_wp_marks Try.func45 rfl trivial ?_ rfl)
  simp only [Try.ntmps45, List.size_toArray, List.length_cons, List.length_nil, Nat.reduceAdd, Nat.reduceSub, Array.replicate_succ, Array.replicate_zero, List.push_toArray, List.append_toArray, List.nil_append, List.cons_append]
  gi_wp2_with (first | (refine ⟨trivial, ?_⟩; gi_at_call 36; rw [← hV]; refine CallsIn.mono (callsIn_wide.2 ht) ?_; rintro e w1 ⟨a', b', off', c', rfl, hTm, hb', hst⟩) | (refine ⟨trivial, ?_⟩; gi_at_call 35; refine CallsIn.mono (callsIn_wide.2 (variables_any _ _ _ _)) ?_; rintro e w'' ⟨rfl, rfl⟩))
  obtain ⟨U, hU⟩ : ∃ U, U = w1.alloc (.cells #[.slice a' T.length c'] 22) := ⟨_, rfl⟩
  rw [← hU]
  have zU : U.heap.size = w1.heap.size + 1 := by rw [hU]; simp
  have z1 := hst.size
  have sU : Stay V U := by rw [hU]; exact hst.alloc _
  have cU : U.cell? ⟨w1.heap.size, 0, none⟩ = some (.slice a' T.length c') := by rw [hU]; simp
  have hTU : TmsS U a' b' off' T := by rw [hU]; exact hTm.stay (Stay.new _ _)
  have hHs : ∀ i, (i < w.heap.size ∨ w.heap.size + 3 ≤ i ∧ i < U.heap.size) → i < U.heap.size := fun i hi => by omega
  have hseq := vars_seq (fun _ => False) T a' b' off' c' w1.heap.size (fun i => i < w.heap.size ∨ w.heap.size + 3 ≤ i ∧ i < U.heap.size) U hTU cU (by omega) (fun h => by
    rcases hb' h with ⟨rfl, h'⟩ | h'
    · exact .inl (HA.out h')
    · exact .inr (by omega)) hHs
  have hI0 : BndM U bm ps ∧ U.heap[w.heap.size]? = V.heap[w.heap.size]? ∧ U.heap[w.heap.size + 1 + 1]? = some (.cells #[.int .i64 (lastS ps ((varsT T).take 0))] 3 (0, 0)) := ⟨hBV.stay sU, sU.block _ (by omega), by
    rw [show lastS ps ((varsT T).take 0) = 0 from rfl]; exact (sU.block _ (by omega)).trans v2⟩
  rw [← hss] at hseq hI0
  clear hss
  have SU : Hid (Stay w U) := sV.trans sU
  clear hV hU hTm hb' hst hTU cU ht v2 hBV sU sV
  refine' range_list (α := ByteArray) (T := fun _ => False) (by decide) (gf := 48) (lb := #[.pointer (some ⟨w1.heap.size, 0, none⟩)]) rfl (enters_of Try.func48 (by kernel_rfl) rfl) hseq hHs (fun _ => rfl)
    (fun k A => (BndM A bm ps ∧ A.heap[w.heap.size]? = V.heap[w.heap.size]? ∧ A.heap[w.heap.size + 1 + 1]? = some (.cells #[.int .i64 (lastS ps (ss.take k))] 3 (0, 0))) ∧ Below w.heap.size w A ∧ U.heap.size ≤ A.heap.size) (fun _ _ _ => False) (fun k A A' hA hb => ?hI) (fun c k A A' hA hb => hA) ⟨hI0, SU.out, Nat.le_refl _⟩ (fun _ W => W) (fun _ W => Stay.refl W) _ ?assign ?body ?done ?stop
  case hI => exact ⟨⟨hA.1.1.keep (hb.block _ (by omega)), (hb.block _ (by omega)).trans hA.1.2.1, (hb.block _ (by omega)).trans hA.1.2.2⟩, hA.2.1.trans (Below.mono hb.1 (by omega)), Nat.le_trans hA.2.2 hb.size⟩
  case assign =>
    intro l' y W' K hK
    dsimp only [encS]
    gi_wp2
    exact hK
  case stop => exact fun _ _ _ _ h => h.elim
  case done =>
    rintro A ⟨⟨-, -, hA2⟩, hA3, hA4⟩ hdd
    rw [List.take_of_length_le (Nat.le_refl _)] at hA2
    have cM : A.cell? ⟨w.heap.size + 1 + 1, 0, none⟩ = some (.int .i64 (lastS ps ss)) := by simp [World.cell?, hA2]
    have HA2 : Hid (Below w.heap.size w A) := hA3
    clear hA2 hA3 hseq hI0 v0
    gi_wp2
    exact leaves_marks (T := fun _ => False) ((Marks.nil w.heap.size U.heap.size A).cons (T := U.heap.size + 1) U.heap.size (Nat.le_refl _) (by omega) (by omega) hdd) fun w' hw' => ⟨_, results_tmp rfl _ _ _, rfl, HA2.out.trans hw'.1⟩
  case body =>
    intro l' k hk W' X hX ho hWs hl' hXs
    obtain ⟨⟨hB, hX0, hX2⟩, hX3, hX4⟩ := hX
    have cM : X.cell? ⟨w.heap.size, 0, none⟩ = some (.map (some bm)) := by
      have := hX0.trans v0
      simp [World.cell?, this]
    have cI : X.cell? ⟨w.heap.size + 1 + 1, 0, none⟩ = some (.int .i64 (lastS ps (ss.take k))) := by simp [World.cell?, hX2]
    have fI : X.frozen? ⟨w.heap.size + 1 + 1, 0, none⟩ = false := by simp [World.frozen?, hX2]
    have hkey := keyS (hsh _ (List.getElem_mem hk))
    have HL : Hid (lastS ps (ss.take (k + 1)) = max (lastS ps (ss.take k)) (firstAt ps ss[k])) := lastS_take hk
    have HB : Hid (BndM X bm ps ∧ X.heap[w.heap.size]? = V.heap[w.heap.size]? ∧ X.heap[w.heap.size + 1 + 1]? = some (.cells #[.int .i64 (lastS ps (ss.take k))] 3 (0, 0)) ∧ Below w.heap.size w X ∧ U.heap.size ≤ X.heap.size) := ⟨hB, hX0, hX2, hX3, hX4⟩
    obtain ⟨D, hD, h2, h3⟩ := hB
    have hat0 := h3 ss[k]
    clear h2 h3 hX0 hX2 hX3 hX4 ho hseq hI0
    generalize ss[k] = sk at *
    generalize lastS ps (ss.take k) = m0 at *
    generalize firstAt ps sk = fa at *
    try dsimp only [encS] at *
    gi_wp2_with (first | (gi_at_lookup; refine wpListIn_lookup_own_int _ rfl _ _ _ rfl 9 3 .i64 lawS Try.underlying66 Try.underlying3 (zeroI _) bm _ D rfl hD _ _ rfl hkey ?_; intro c hat hwc; obtain rfl : fa = c := (by rw [hat0] at hat; simpa using hat); clear hat hwc))
    obtain ⟨hB, hX0, hX2, hX3, hX4⟩ := HB.out
    have hne : ∀ j, j ≠ w.heap.size + 1 + 1 → (X.setCell ⟨w.heap.size + 1 + 1, 0, none⟩ (.int .i64 (max m0 fa))).heap[j]? = X.heap[j]? := fun j hj => Below.heap_setCell _ _ _ _ (fun e => hj e)
    have hzs : X.heap.size ≤ (X.setCell ⟨w.heap.size + 1 + 1, 0, none⟩ (.int .i64 (max m0 fa))).heap.size := by simp [World.setCell]
    refine ⟨fun i hi => hne i ?_, hzs, ⟨hB.keep (hne _ (by omega)), (hne _ (by omega)).trans hX0, ?_⟩, Below.setCell hX3 (p := ⟨w.heap.size + 1 + 1, 0, none⟩) (by show w.heap.size ≤ w.heap.size + 1 + 1; omega) _, by omega⟩
    · rcases hi with hi | hi
      · omega
      · have := hi.1; omega
    · rw [HL.out]
      simp [World.setCell, Array.getElem?_modify, hX2]
end Go.Proofs.Ytpnjmldbohecdaa
