/- Which variables a body binds, and by which literal first: bindersOf. bindersOf: the walk. Loose variables, plainly: how many places, how long the texts. -/
import Derived.Test.YtpnjmldbohecdaaQG
namespace Go.Proofs.Ytpnjmldbohecdaa
open Go.RowKit Go.Maps Go.Shelf
attribute [local go_sem] Oper.semAt_some

def firstAt : List (Int × ByteArray) → ByteArray → Int
  | [], _ => 0
  | p :: ps, s => if p.2 = s then p.1 else firstAt ps s
def namesP (ps : List (Int × ByteArray)) : List ByteArray := ps.map (·.2)
theorem firstAt_no : ∀ {ps : List (Int × ByteArray)} {s : ByteArray}, s ∉ namesP ps → firstAt ps s = 0
  | [], _, _ => rfl
  | p :: ps, s, h => by
    simp only [namesP, List.map_cons, List.mem_cons, not_or] at h
    rw [firstAt, if_neg (fun e => h.1 e.symm), firstAt_no h.2]
theorem firstAt_snoc : ∀ (ps : List (Int × ByteArray)) (p : Int × ByteArray) (s : ByteArray), firstAt (ps ++ [p]) s = if s ∈ namesP ps then firstAt ps s else if p.2 = s then p.1 else 0
  | [], p, s => by simp [firstAt, namesP]
  | q :: ps, p, s => by
    rw [List.cons_append, firstAt, firstAt, firstAt_snoc ps p s]
    by_cases h : q.2 = s
    · simp [h, namesP]
    · have : s ∈ namesP (q :: ps) ↔ s ∈ namesP ps := by simp [namesP, Ne.symm h]
      simp only [h, if_false, this]
theorem namesP_snoc (ps : List (Int × ByteArray)) (p : Int × ByteArray) : namesP (ps ++ [p]) = namesP ps ++ [p.2] := by simp [namesP]

/-- At bm lies a map of the names in ps, each with the number that first stands by it. -/
def BndM (w : World) (bm : Nat) (ps : List (Int × ByteArray)) : Prop :=
  ∃ D : DataW Unit, w.ownsMap Try.prog 9 (plainElem Try.prog 3) bm ps.length D ∧ (∀ s, has D (keyB s) = inB (namesP ps) s) ∧ ∀ s, D.atKey (keyB s) (.lit (.int .i64 0)) = .lit (.int .i64 (firstAt ps s))
theorem BndM.keep {w w' : World} {bm : Nat} {us : List (Int × ByteArray)} (h : BndM w bm us) (hb : w'.heap[bm]? = w.heap[bm]?) : BndM w' bm us := by
  obtain ⟨D, ⟨es, clock, h1, h2⟩, h3⟩ := h
  exact ⟨D, ⟨es, clock, hb.trans h1, h2⟩, h3⟩
theorem BndM.lt {w : World} {bm : Nat} {us : List (Int × ByteArray)} (h : BndM w bm us) : bm < w.heap.size := by
  obtain ⟨D, h1, _⟩ := h; exact h1.lt
theorem BndM.obj {w : World} {bm : Nat} {us : List (Int × ByteArray)} (h : BndM w bm us) : ∃ o, w.heap[bm]? = some o ∧ o.isCells = false := by
  obtain ⟨D, ⟨es, clock, h1, _⟩, _⟩ := h
  exact ⟨_, h1, rfl⟩
theorem BndM.stay {w w' : World} {bm : Nat} {us : List (Int × ByteArray)} (h : BndM w bm us) (hs : Stay w w') : BndM w' bm us := h.keep (hs.block _ h.lt)
theorem bndM_new (w : World) : BndM (w.alloc (.map #[] 0)) w.heap.size [] := ⟨_, w.ownsMap_made _ _ _, fun s => by simp [has, inB, namesP], fun s => by simp [DataW.atKey, firstAt]⟩
theorem run_mapB (W : World) : (Instr.makeMap 66 none).run Try.prog W = .ok (.map (some W.heap.size)) (W.alloc (.map #[] 0)) := by kernel_rfl
theorem zeroI (w : World) : (zeroValue 3).run Try.prog w = .ok (.int .i64 0) w := by kernel_rfl
theorem BndM.there {w : World} {bm : Nat} {ps : List (Int × ByteArray)} {p : Int × ByteArray} (h : BndM w bm ps) (hp : p.2 ∈ namesP ps) : BndM w bm (ps ++ [p]) := by
  obtain ⟨D, ⟨es, clock, h1, F, hn, hD⟩, h2, h3⟩ := h
  refine ⟨D, ⟨es, clock, h1, F, by simp; omega, hD⟩, fun s => ?_, fun s => ?_⟩
  · rw [h2, namesP_snoc, inB_snoc, Bool.eq_iff_iff]
    simp only [inB_iff, Bool.or_eq_true, beq_iff_eq]
    constructor
    · exact .inl
    · rintro (h | rfl)
      · exact h
      · exact hp
  · rw [h3, firstAt_snoc]
    split
    · rfl
    · rename_i hs
      rw [if_neg (fun e : p.2 = s => hs (e ▸ hp)), firstAt_no hs]
theorem BndM.added {w : World} {bm : Nat} {ps : List (Int × ByteArray)} {p : Int × ByteArray} {D : DataW Unit} (hm : IsMap D) (hno : p.2 ∉ namesP ps) (h2 : ∀ s, has D (keyB s) = inB (namesP ps) s) (h3 : ∀ s, D.atKey (keyB s) (.lit (.int .i64 0)) = .lit (.int .i64 (firstAt ps s)))
    (h : w.ownsMap Try.prog 9 (plainElem Try.prog 3) bm (ps.length + 1) (D.put (keyB p.2) (.lit (.int .i64 p.1)))) : BndM w bm (ps ++ [p]) := by
  have hk : WideAt.IsKeyLit (keyB p.2) := by simp [keyB, WideAt.IsKeyLit]
  refine ⟨_, by simpa using h, fun s => ?_, fun s => ?_⟩
  · rw [namesP_snoc, inB_snoc]
    by_cases e : s = p.2
    · subst e
      rw [has_put_same hm hk]
      simp
    · rw [has_put_other (fun h => e (keyB_inj h)), h2 s]
      simp [e]
  · rw [firstAt_snoc]
    by_cases e : s = p.2
    · subst e
      rw [atKey_put_same hm hk, if_neg hno, if_pos rfl]
    · rw [atKey_put_other (fun h => e (keyB_inj h)), h3 s]
      split
      · rfl
      · rename_i hs
        rw [if_neg (fun h => e h.symm), firstAt_no hs]
end Go.Proofs.Ytpnjmldbohecdaa
namespace Go.Proofs.Ytpnjmldbohecdaa
open Go.RowKit Go.Maps Go.Shelf
attribute [local go_sem] Oper.semAt_some

theorem new_cell (A : World) (v : Value) (t : TypeId) : (A.alloc (.cells #[v] t)).cell? ⟨A.heap.size, 0, none⟩ = some v := by
  unfold World.cell?
  dsimp only
  rw [heap_new]
  rfl
/-- What a body binds, place by place. -/
def bindP (ls : List Li) : List (Int × ByteArray) := sel (bindC ls) (placesB 0 ls)
def Bnds (ls : List Li) (w : World) (e : Ending) (w' : World) : Prop := ∃ bm, e = .returned (.map (some bm)) ∧ BndM w' bm (bindP ls) ∧ w.heap.size ≤ bm ∧ Stay w w'

set_option maxRecDepth 100000 in
set_option maxHeartbeats 4000000 in
theorem bindersOf_any (ls : List Li) (a : Option Addr) (b off cap : Nat) (w : World) (hM : LisS w a b off ls) (hs : (bodyRu a b off cap ls).small) (hr : (bodyRu a b off cap ls).reads (fun i => i < w.heap.size)) (ht : ∀ p ∈ bindP ls, p.2.size ≤ 1048576) (hn : (bindP ls).length < 1099511627776000) (hi : ∀ p ∈ bindP ls, (Lit.int .i64 p.1).wf = true) :
    Calls Try.prog 25 #[.slice a ls.length cap] w (Bnds ls w) := by
  have hmk := run_mapB
  obtain ⟨xs, hxs⟩ : ∃ xs, xs = bindP ls := ⟨_, rfl⟩
  unfold Bnds
  rw [← hxs] at ht hn hi ⊢
  refine (callsIn_wide (n := 8)).1 (callsIn_of_wp_marks Try.func25 rfl trivial ?_ rfl)
  simp only [Try.ntmps25, List.size_toArray, List.length_cons, List.length_nil, Nat.reduceAdd, Nat.reduceSub, Array.replicate_succ, Array.replicate_zero, List.push_toArray, List.append_toArray, List.nil_append, List.cons_append]
  gi_wp2_with (refine ⟨trivial, ?_⟩; gi_at_call 24; refine CallsIn.mono (callsIn_wide.2 (binding_any _ _ _ _)) ?_; rintro e w' ⟨rfl, rfl⟩)
  obtain ⟨V, hV⟩ : ∃ V, V = ((w.alloc (.map #[] 0)).alloc (.cells #[.map (some w.heap.size)] 66)).alloc (.cells #[.slice a ls.length cap] 25) := ⟨_, rfl⟩
  rw [← hV]
  have sV : V.heap.size = w.heap.size + 3 := by rw [hV]; simp
  have stV : Stay w V := by rw [hV]; exact ((Stay.new _ _).alloc _).alloc _
  have v0 : BndM V w.heap.size [] := by
    rw [hV]; exact ((bndM_new w).stay (Stay.new _ _)).stay (Stay.new _ _)
  have v1 : V.heap[w.heap.size + 1]? = some (.cells #[.map (some w.heap.size)] 66 (0, 0)) := by
    have := heap_new (w.alloc (.map #[] 0)) (.cells #[.map (some w.heap.size)] 66)
    rw [World.size_alloc] at this
    rw [hV]; exact (Below.heap_alloc _ _ _ (by simp)).trans this
  have v2 : V.cell? ⟨w.heap.size + 1 + 1, 0, none⟩ = some (.slice a ls.length cap) := by
    have := new_cell ((w.alloc (.map #[] 0)).alloc (.cells #[.map (some w.heap.size)] 66)) (.slice a ls.length cap) 25
    rw [World.size_alloc, World.size_alloc] at this
    rw [hV]; exact this
  have hHV : ∀ i, (i < w.heap.size ∨ i = w.heap.size + 1 + 1) → i < V.heap.size := fun i hi => by omega
  have hseq := bind_seq (fun _ => False) ⟨id, id, id, id⟩ ls a b off cap (w.heap.size + 1 + 1) (fun i => i < w.heap.size ∨ i = w.heap.size + 1 + 1) V (hM.stay stV) v2 hs (hr.mono fun i h => .inl h) (.inr rfl) hHV
  rw [show sel (bindC ls) (placesB 0 ls) = xs from hxs.symm] at hseq
  clear hV hxs hmk v2
  refine' range_list (α := Int × ByteArray) (by decide) (gf := 43) (lb := #[.pointer (some ⟨w.heap.size + 1 + 1, 0, none⟩)]) rfl (enters_of Try.func43 (by kernel_rfl) rfl) hseq hHV (fun _ => rfl)
    (fun k A => BndM A w.heap.size (xs.take k) ∧ A.heap[w.heap.size + 1]? = V.heap[w.heap.size + 1]? ∧ Below w.heap.size w A ∧ V.heap.size ≤ A.heap.size) (fun _ _ _ => False) (fun k A A' hA hb => ?hI) (fun c k A A' hA hb => hA) ⟨by simpa using v0, rfl, stV, Nat.le_refl _⟩ (fun _ W => W) (fun _ W => Stay.refl W) _ ?assign ?body ?done ?stop
  case hI => exact ⟨hA.1.keep (hb.block _ (by omega)), (hb.block _ (by omega)).trans hA.2.1, hA.2.2.1.trans (Below.mono hb.1 (by omega)), Nat.le_trans hA.2.2.2 hb.size⟩
  case assign =>
    intro l' y W' K hK
    dsimp only [encIS]
    gi_wp2
    exact hK
  case stop => exact fun _ _ _ _ h => h.elim
  case done =>
    rintro A ⟨hA1, hA2, hA3, hA4⟩ hdd
    rw [List.take_of_length_le (Nat.le_refl _)] at hA1
    have cM : A.cell? ⟨w.heap.size + 1, 0, none⟩ = some (.map (some w.heap.size)) := by
      have := hA2.trans v1
      simp [World.cell?, this]
    have HA : Hid (BndM A w.heap.size xs ∧ Below w.heap.size w A) := ⟨hA1, hA3⟩
    clear hA1 hA2 hA3 hseq v0 v1
    gi_wp2
    refine leaves_marks (T := fun _ => False) ((Marks.nil (w.heap.size + 2) V.heap.size A).cons (T := V.heap.size + 1) V.heap.size (Nat.le_refl _) (by omega) (by omega) hdd) fun w' hw' => ⟨_, results_tmp rfl _ _ _, w.heap.size, rfl, HA.out.1.keep (hw'.block _ (by omega)), Nat.le_refl _, HA.out.2.trans (Below.mono hw'.1 (by omega))⟩
  case body =>
    intro l' k hk W' X hX ho hWs hl' hXs
    obtain ⟨hB, hA2, hA3, hA4⟩ := hX
    have cM : X.cell? ⟨w.heap.size + 1, 0, none⟩ = some (.map (some w.heap.size)) := by
      have := hA2.trans v1
      simp [World.cell?, this]
    have hkey := keyS (ht _ (List.getElem_mem hk))
    have hwf := hi _ (List.getElem_mem hk)
    have htk : xs.take (k + 1) = xs.take k ++ [xs[k]] := by rw [List.take_add_one, List.getElem?_eq_getElem hk]; rfl
    have HB : Hid (BndM X w.heap.size (xs.take k) ∧ X.heap[w.heap.size + 1]? = V.heap[w.heap.size + 1]? ∧ Below w.heap.size w X ∧ V.heap.size ≤ X.heap.size) := ⟨hB, hA2, hA3, hA4⟩
    obtain ⟨D, hD, h2, h3⟩ := hB
    have hh := h2 xs[k].2
    have HT : Hid (xs.take (k + 1) = xs.take k ++ [xs[k]]) := htk
    have hlt : (xs.take k).length < maxLen := by rw [List.length_take]; unfold maxLen; omega
    have HD : Hid (IsMap D ∧ (∀ s, has D (keyB s) = inB (namesP (xs.take k)) s) ∧ ∀ s, D.atKey (keyB s) (.lit (.int .i64 0)) = .lit (.int .i64 (firstAt (xs.take k) s))) := ⟨(hD.tidy lawS).isMap, h2, h3⟩
    clear h2 h3 hA2 hA3 hA4 ho hseq htk v0
    cases hc : inB (namesP (xs.take k)) xs[k].2
    · rw [hc] at hh
      have HN : Hid (xs[k].2 ∉ namesP (xs.take k)) := (inB_no _ _).1 hc
      generalize xs[k] = p at *
      obtain ⟨pi, ps⟩ := p
      dsimp only [encIS] at *
      clear hc
      gi_wp2_with (first | (gi_at_lookup; refine wpListIn_lookup_own_ok_int _ rfl _ _ _ rfl 9 3 .i64 lawS Try.underlying66 Try.underlying3 (zeroI _) w.heap.size _ D rfl hD _ _ rfl hkey ?_; intro c hat hwc; rw [hh]) | (gi_at_mapUpdate; refine wpListIn_mapUpdate_own _ rfl _ _ _ _ rfl 9 3 lawS Try.underlying66 _ w.heap.size _ D rfl hD hlt _ _ _ rfl rfl hkey _ [] (plainElem_int Try.underlying3 hwf) ?_; intro w1 hD1 hg1))
      obtain ⟨hB, hA2, hA3, hA4⟩ := HB.out
      refine ⟨grown_holds hg1 fun i hi => hi.elim (fun hi => by omega) (fun hi => by have g1 := hi.1; have g2 := hi.2.1; omega), hg1.size, by rw [HT.out]; exact BndM.added (p := (pi, ps)) HD.out.1 HN.out HD.out.2.1 HD.out.2.2 hD1, (hg1.block _ (by omega) (by simp)).trans hA2, hA3.trans (grown_below hg1 (by omega) (Nat.le_refl _)), Nat.le_trans hA4 hg1.size⟩
    · rw [hc] at hh
      have HN : Hid (xs[k].2 ∈ namesP (xs.take k)) := (inB_iff _ _).1 hc
      generalize xs[k] = p at *
      obtain ⟨pi, ps⟩ := p
      dsimp only [encIS] at *
      clear hc
      gi_wp2_with (first | (gi_at_lookup; refine wpListIn_lookup_own_ok_int _ rfl _ _ _ rfl 9 3 .i64 lawS Try.underlying66 Try.underlying3 (zeroI _) w.heap.size _ D rfl hD _ _ rfl hkey ?_; intro c hat hwc; rw [hh]))
      obtain ⟨hB, hA2, hA3, hA4⟩ := HB.out
      exact ⟨Holds.refl _ _, Nat.le_refl _, by rw [HT.out]; exact hB.there (p := (pi, ps)) HN.out, hA2, hA3, hA4⟩
end Go.Proofs.Ytpnjmldbohecdaa
namespace Go.Proofs.Ytpnjmldbohecdaa
open Go.RowKit Go.Maps Go.Shelf

theorem selF_sub {α : Type} (c : List α → α → Bool) : ∀ (pre xs : List α), (selF c pre xs).Sublist xs
  | _, [] => List.Sublist.refl _
  | pre, x :: xs => by
    unfold selF
    split
    · exact (selF_sub c (pre ++ [x]) xs).cons_cons x
    · exact (selF_sub c (pre ++ [x]) xs).cons x
theorem sel_sub {α : Type} (c : List α → α → Bool) (xs : List α) : (sel c xs).Sublist xs := selF_sub c [] xs
theorem sel_mem {α : Type} {c : List α → α → Bool} {xs : List α} {x : α} (h : x ∈ sel c xs) : x ∈ xs := (sel_sub c xs).subset h
theorem sel_len {α : Type} (c : List α → α → Bool) (xs : List α) : (sel c xs).length ≤ xs.length := (sel_sub c xs).length_le

def Ru.shorts (x : Ru) : Prop := (∀ t ∈ x.head.ts, t.text.size ≤ 1048576) ∧ ∀ l ∈ x.body, (∀ t ∈ l.atom.ts, t.text.size ≤ 1048576) ∧ l.left.text.size ≤ 1048576 ∧ l.right.text.size ≤ 1048576
theorem varsT_mem {ts : List Tm} {s : ByteArray} (h : s ∈ varsT ts) : ∃ t ∈ ts, t.var = true ∧ t.text = s := by
  unfold varsT at h
  obtain ⟨t, ht, rfl⟩ := List.mem_map.1 h
  rw [List.mem_filter] at ht
  exact ⟨t, ht.1, ht.2, rfl⟩
theorem varsT_len (ts : List Tm) : (varsT ts).length ≤ ts.length := by
  unfold varsT; rw [List.length_map]; exact List.length_filter_le _ _
theorem terms_mem {l : Li} {t : Tm} (h : t ∈ l.terms) : t ∈ l.atom.ts ∨ t = l.left ∨ t = l.right := by
  unfold Li.terms at h
  split at h
  · exact .inl h
  · split at h
    · simp at h; exact .inr h
    · simp at h
theorem placesB_short {ls : List Li} (h : ∀ l ∈ ls, (∀ t ∈ l.atom.ts, t.text.size ≤ 1048576) ∧ l.left.text.size ≤ 1048576 ∧ l.right.text.size ≤ 1048576) : ∀ p ∈ placesB 0 ls, p.2.size ≤ 1048576 := by
  intro p hp
  obtain ⟨j, hj, -, hv⟩ := placesB_mem 0 ls p hp
  obtain ⟨t, ht, -, he⟩ := varsT_mem hv
  rw [← he]
  obtain ⟨h1, h2, h3⟩ := h _ (List.getElem_mem hj)
  rcases terms_mem ht with h | rfl | rfl
  · exact h1 t h
  · exact h2
  · exact h3
theorem placesR_short {x : Ru} (h : x.shorts) : ∀ p ∈ placesR x, p.2.size ≤ 1048576 := by
  intro p hp
  unfold placesR at hp
  rcases List.mem_append.1 hp with hp | hp
  · obtain ⟨s, hs, rfl⟩ := List.mem_map.1 hp
    obtain ⟨t, ht, -, rfl⟩ := varsT_mem hs
    exact h.1 t ht
  · exact placesB_short h.2 p hp
theorem placesB_len : ∀ (k : Nat) (ls : List Li), (∀ l ∈ ls, l.atom.ts.length ≤ 1048576) → (placesB k ls).length ≤ ls.length * 1048578
  | _, [], _ => by simp [placesB]
  | k, l :: ls, h => by
    have h1 := placesB_len (k + 1) ls (fun x hx => h x (List.mem_cons_of_mem _ hx))
    have h2 := varsT_len l.terms
    have h3 := Li.terms_len l
    have h4 := h l List.mem_cons_self
    simp only [placesB, List.length_append, List.length_map, List.length_cons]
    omega
theorem placesB_few {a : Option Addr} {b off cap : Nat} {ls : List Li} (h : (bodyRu a b off cap ls).small) : (placesB 0 ls).length ≤ 1099513724928 := by
  have h1 := placesB_len 0 ls h.2.2
  have h2 : ls.length ≤ 1048576 := h.2.1
  have := Nat.mul_le_mul_right 1048578 h2
  omega
theorem placesR_few {x : Ru} (h : x.small) : (placesR x).length ≤ 1099514773504 := by
  have h1 := placesB_len 0 x.body h.2.2
  have := Nat.mul_le_mul_right 1048578 h.2.1
  have h2 := varsT_len x.head.ts
  have h3 := h.1
  simp only [placesR, List.length_append, List.length_map]
  omega
theorem bodySmall {x : Ru} (h : x.small) : (bodyRu x.a x.b x.off x.cap x.body).small := ⟨by simp [bodyRu], h.2.1, h.2.2⟩
theorem bodyReads {x : Ru} {Hs : Nat → Prop} (h : x.reads Hs) : (bodyRu x.a x.b x.off x.cap x.body).reads Hs := ⟨fun h => absurd h (by simp [bodyRu]), h.2.1, h.2.2⟩
theorem placesB_wf {ls : List Li} (h : ls.length ≤ 1048576) : ∀ p ∈ placesB 0 ls, (Lit.int .i64 p.1).wf = true := by
  intro p hp
  obtain ⟨j, hj, h1, -⟩ := placesB_mem 0 ls p hp
  rw [h1]
  exact WalkArith.wf_i64 (by omega)
theorem bindersOf_ok (x : Ru) (w : World) (hM : x.In w) (hs : x.small) (hr : x.reads (fun i => i < w.heap.size)) (ht : x.shorts) : Calls Try.prog 25 #[.slice x.a x.body.length x.cap] w (Bnds x.body w) :=
  bindersOf_any x.body x.a x.b x.off x.cap w hM.2 (bodySmall hs) (bodyReads hr) (fun p hp => placesB_short ht.2 p (sel_mem hp)) (by have := placesB_few (bodySmall hs); have := sel_len (bindC x.body) (placesB 0 x.body); unfold bindP; omega) (fun p hp => placesB_wf hs.2.1 p (sel_mem hp))

/-- A place whose variable is not among these. -/
def looseC (bs : List (Int × ByteArray)) (_ : List (Int × ByteArray)) (p : Int × ByteArray) : Bool := !inB (namesP bs) p.2
/-- The loose variables of a rule, each with the literal in which it first stands. -/
def looseP (x : Ru) : List (Int × ByteArray) := sel (looseC (bindP x.body)) (sel newC (placesR x))
end Go.Proofs.Ytpnjmldbohecdaa
