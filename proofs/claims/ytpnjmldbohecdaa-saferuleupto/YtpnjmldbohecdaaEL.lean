/- The names that a function tells, each in a text of its own: namesOf. -/
import Derived.Test.YtpnjmldbohecdaaEK
import Derived.Test.YtpnjmldbohecdaaEG
import Derived.Test.YtpnjmldbohecdaaQP
namespace Go.Proofs.Ytpnjmldbohecdaa
open Go.RowKit Go.Maps Go.Shelf
attribute [local go_sem] Oper.semAt_some

/-- The types of lists that rounds grow. -/
def OwS (t : TypeId) : Prop := t = 9
theorem OwnR.tyd {α : Type} {t : TypeId} {n : Nat} {enc : α → List Value} {base : Nat} {w : World} {v : Value} {xs : List α} (h : OwnR t n enc base w v xs) {T : TypeId → Prop} (hT : T t) {k : Nat} (hk : v.ownBlock = some k) : Tyd T w k := by
  rcases h.2 with ⟨hx, -⟩ | ⟨b, c, cur, hv, hbb, hh, rest⟩
  · rw [hx] at hk; cases hk
  · rw [hv] at hk
    obtain rfl : b = k := Option.some.inj hk
    exact ⟨_, _, _, hh, hT⟩
/-- Between two rounds: the box, the list in it. -/
structure NI {α : Type} (t bt : TypeId) (n : Nat) (enc : α → List Value) (w : World) (us : List α) (v : Value) (A : World) : Prop where
  box : A.heap[w.heap.size]? = some (.cells #[v] bt (0, 0))
  own : OwnR t n enc (w.heap.size + 1) A v us
  bel : Below w.heap.size w A
section
variable {α : Type} {t bt : TypeId} {n : Nat} {enc : α → List Value} {T : TypeId → Prop} {w A A' : World} {us : List α} {v : Value}
theorem NI.hold (hT : T t) (h : NI t bt n enc w us v A) (hb : Bel T (w.heap.size + 1) A A') : NI t bt n enc w us v A' :=
  ⟨(hb.block _ (by omega)).trans h.box, h.own.held fun k hk => hb.2 k (h.own.tyd hT hk), h.bel.trans (Below.mono hb.1 (by omega))⟩
theorem NI.stay (h : NI t bt n enc w us v A) (hb : Stay A A') : NI t bt n enc w us v A' :=
  have hA := (Array.getElem?_eq_some_iff.1 h.box).1
  ⟨(hb.block _ hA).trans h.box, h.own.stay hb, h.bel.trans (Below.mono hb (Nat.le_of_lt hA))⟩
theorem NI.cell (h : NI t bt n enc w us v A) : A.cell? ⟨w.heap.size, 0, none⟩ = some v := by
  have := h.box
  simp [World.cell?, this]
theorem NI.push {P : Program} (he : EncOk n enc) {s : TypeId} (hu : P.underlying s = some (.slice t)) {z : Value} {bytes : Nat} (hinfo : (P.info? t).map (fun i => (i.zero, i.size, i.bytes)) = some (some z, n, bytes)) (hz : z.cells.size = n) (hT : T t) {X w1 : World} (h : NI t bt n enc w us v X) (m : α) (hl : us.length + 1 ≤ maxLen) (hb : (us.length + 1) * bytes ≤ 140737488355328) (h1 : Stay X w1) (ty : TypeId) :
    ∃ a1 n1 c1 W2, (Builtin.append_ #[s, s] ty #[v, .slice (some ⟨w1.heap.size, 0, none⟩) 1 1]).run P (w1.alloc (.cells (enc m).toArray t)) = .ok (.slice a1 n1 c1) W2 ∧
      (w1.cell? ⟨w.heap.size, 0, none⟩ = some v ∧ (∀ o, (w1.alloc o).cell? ⟨w.heap.size, 0, none⟩ = some v) ∧ W2.cell? ⟨w.heap.size, 0, none⟩ = some v ∧ W2.frozen? ⟨w.heap.size, 0, none⟩ = false) ∧
      NI t bt n enc w (us ++ [m]) (.slice a1 n1 c1) (W2.setCell ⟨w.heap.size, 0, none⟩ (.slice a1 n1 c1)) ∧ X.heap.size ≤ (W2.setCell ⟨w.heap.size, 0, none⟩ (.slice a1 n1 c1)).heap.size ∧
      ∀ i, i ≠ w.heap.size → i < X.heap.size → (i < w.heap.size ∨ ¬ Tyd T X i) → (W2.setCell ⟨w.heap.size, 0, none⟩ (.slice a1 n1 c1)).heap[i]? = X.heap[i]? := by
  have hX := (Array.getElem?_eq_some_iff.1 h.box).1
  have hzz := h1.size
  have hb1 := (h1.block _ hX).trans h.box
  have hc1 : w1.cell? ⟨w.heap.size, 0, none⟩ = some v := by simp [World.cell?, hb1]
  obtain ⟨a1, c1, W2, r, o2, b2, k2, q2, s2⟩ := own_push he hu hinfo hz (h.own.stay h1) m hl hb (by omega) ty
  have hbox : W2.heap[w.heap.size]? = some (.cells #[v] bt (0, 0)) := (b2.block _ (by omega)).trans hb1
  have hne : ∀ i, i ≠ w.heap.size → (W2.setCell ⟨w.heap.size, 0, none⟩ (.slice a1 (us.length + 1) c1)).heap[i]? = W2.heap[i]? := fun i hi => Below.heap_setCell _ _ _ _ (fun e => hi e)
  refine ⟨a1, _, c1, W2, r, ⟨hc1, fun o => (Stay.new _ _).cell hc1, by simp [World.cell?, hbox], by simp [World.frozen?, hbox]⟩, ⟨?_, ?_, ?_⟩, ?_, fun i hi hlt hT' => ?_⟩
  · simp [World.setCell, Array.getElem?_modify, hbox]
  · exact o2.held fun k hk => hne k (by have := (o2.lt k hk).1; omega)
  · exact Below.setCell (Below.trans (Below.trans h.bel (Below.mono h1 (by omega))) (Below.mono b2 (by omega))) (p := ⟨w.heap.size, 0, none⟩) (Nat.le_refl _) _
  · simp [World.setCell]; omega
  · exact (hne i hi).trans ((k2 i (by omega) (fun e => hT'.elim (fun h3 => by have := (h.own.lt i e).1; omega) (fun h3 => h3 (h.own.tyd hT e)))).trans (h1.block i hlt))
end

set_option maxRecDepth 100000 in
set_option maxHeartbeats 4000000 in
theorem namesOf_any (xs : List (Int × ByteArray)) (gf : Nat) (lb : Array Value) (eg : ∀ args w, (callFunc gf args).run Try.prog w = .ok (.enter gf args) w) (Hs : Nat → Prop) (w : World) (hseq : SeqL OwS Try.prog gf lb encIS Hs xs w) (hHs : ∀ i, Hs i → i < w.heap.size) (hs : ∀ p ∈ xs, p.2.size ≤ 1048576) (hn : xs.length ≤ 1099514773504) :
    Calls Try.prog 21 #[.func (.func gf) #[] lb] w (NewR 9 1 encSt w (namesP xs)) := by
  refine (callsIn_wide (n := 8)).1 (callsIn_of_wp_marks Try.func21 rfl trivial ?_ rfl)
  simp only [Try.ntmps21, List.size_toArray, List.length_cons, List.length_nil, Nat.reduceAdd, Nat.reduceSub, Array.replicate_succ, Array.replicate_zero, List.push_toArray, List.append_toArray, List.nil_append, List.cons_append]
  gi_wp2
  obtain ⟨V, hV⟩ : ∃ V, V = w.alloc (.cells #[.slice none 0 0] 28) := ⟨_, rfl⟩
  rw [← hV]
  have sV : V.heap.size = w.heap.size + 1 := by rw [hV]; simp
  have stV : Stay w V := by rw [hV]; exact Stay.new _ _
  have hI0 : NI 9 28 1 encSt w [] (.slice none 0 0) V := ⟨by rw [hV]; exact heap_new _ _, OwnR.nil, stV⟩
  have hclone : ∀ args w, (callFunc 29 args).run Try.prog w = .ok (.enter 29 args) w := enters_of Try.func29 (by kernel_rfl) rfl
  clear hV
  refine' range_list (α := Int × ByteArray) (T := OwS) (by decide) (gf := gf) (lb := lb) rfl eg (hseq.stay stV) (fun i hi => by have := hHs i hi; omega) (fun _ => rfl)
    (fun k A => ∃ v, NI 9 28 1 encSt w (namesP (xs.take k)) v A ∧ V.heap.size ≤ A.heap.size) (fun _ _ _ => False) (fun k A A' hA hb => ?hI) (fun c k A A' hA hb => hA) ⟨_, by simpa [namesP] using hI0, Nat.le_refl _⟩ (fun _ W => W) (fun _ W => Stay.refl W) _ ?assign ?body ?done ?stop
  case hI =>
    obtain ⟨v, h1, h2⟩ := hA
    exact ⟨v, h1.hold (T := OwS) rfl (hb.mono (by omega)), Nat.le_trans h2 hb.size⟩
  case assign =>
    intro l' y W' K hK
    dsimp only [encIS]
    gi_wp2
    exact hK
  case stop => exact fun _ _ _ _ h => h.elim
  case done =>
    rintro A ⟨v, hA, hz⟩ hdd
    rw [List.take_of_length_le (Nat.le_refl _)] at hA
    have cM : A.cell? ⟨w.heap.size, 0, none⟩ = some v := by
      have := hA.box
      simp [World.cell?, this]
    obtain ⟨a, b, c, rfl, -⟩ := hA.own.form encStOk
    have HA : Hid (NI 9 28 1 encSt w (namesP xs) (.slice a (namesP xs).length c) A) := hA
    clear hA hseq hI0
    gi_wp2
    refine leaves_marks (T := OwS) ((Marks.nil (w.heap.size + 1) V.heap.size A).cons (T := V.heap.size + 1) V.heap.size (Nat.le_refl _) (by omega) (by omega) hdd) fun w' hw' => ⟨_, results_tmp rfl _ _ _, a, c, rfl, ?_, ?_⟩
    · exact ((HA.out.hold (T := OwS) rfl hw').own).base (by omega)
    · exact (HA.out.hold (T := OwS) rfl hw').bel
  case body =>
    intro l' k hk W' X hX ho hWs hl' hXs
    obtain ⟨v, hX, hz⟩ := hX
    have htk : namesP (xs.take (k + 1)) = namesP (xs.take k) ++ [xs[k].2] := by rw [List.take_add_one, List.getElem?_eq_getElem hk, Option.toList_some, namesP, List.map_append]; rfl
    have hlen : (namesP (xs.take k)).length ≤ 1099514773504 := by rw [namesP, List.length_map, List.length_take]; omega
    have hcl := clone_any xs[k].2 X.drew (hs _ (List.getElem_mem hk))
    have HP : Hid (∀ w1, Stay X w1 → ∃ a1 n1 c1 W2, (Builtin.append_ #[28, 28] 28 #[v, .slice (some ⟨w1.heap.size, 0, none⟩) 1 1]).run Try.prog (w1.alloc (.cells #[.string xs[k].2] 9)) = .ok (.slice a1 n1 c1) W2 ∧
      (w1.cell? ⟨w.heap.size, 0, none⟩ = some v ∧ (∀ o, (w1.alloc o).cell? ⟨w.heap.size, 0, none⟩ = some v) ∧ W2.cell? ⟨w.heap.size, 0, none⟩ = some v ∧ W2.frozen? ⟨w.heap.size, 0, none⟩ = false) ∧ ∀ a',
      listPost OwS V.heap.size Hs (fun k A => ∃ v, NI 9 28 1 encSt w (namesP (xs.take k)) v A ∧ V.heap.size ≤ A.heap.size) (fun _ _ _ => False) (k + 1) X .normal a' (W2.setCell ⟨w.heap.size, 0, none⟩ (.slice a1 n1 c1))) := fun w1 h1 => by
      obtain ⟨a1, n1, c1, W2, r, hc, hN, hsz, hkp⟩ := hX.push (T := OwS) encStOk Try.underlying28 infoSt rfl rfl xs[k].2 (by unfold maxLen; omega) (by omega) h1 28
      refine ⟨a1, n1, c1, W2, r, hc, fun a' => ⟨fun i hi => hkp i ?_ ?_ ?_, hsz, _, by rw [htk]; exact hN, by omega⟩⟩
      · rcases hi with hi | hi
        · have := hHs i hi; omega
        · have := hi.1; omega
      · rcases hi with hi | hi
        · have := hHs i hi; omega
        · exact hi.2.1
      · rcases hi with hi | hi
        · exact .inl (hHs i hi)
        · exact .inr hi.2.2
    have c0 : X.drew.cell? ⟨w.heap.size, 0, none⟩ = some v := (Stay.drew X).cell (by
      have := hX.box
      simp [World.cell?, this])
    clear hX hI0 hseq htk ho
    generalize xs[k] = p at *
    obtain ⟨pi, ps⟩ := p
    dsimp only [encIS] at *
    gi_wp2
    refine region_round (by kernel_rfl) (by rfl) (by rintro ⟨a, w, h⟩; exact h) ?_
    refine wpAny_take (i := 1) (v := .string ps) rfl (by kernel_rfl) (by kernel_rfl) (by kernel_rfl) (fun _ _ _ h => h) (Or.inl ⟨by rfl, fun W => by first | (go_simp; done) | (go_simp; with_reducible rfl)⟩) ?_
    refine wpAny_ready (rs := [0, 2]) (by kernel_rfl) (by simp) (AllReady.cons (o := { dst := some 9, op := Op.load 28 (Operand.tmp 3), type := 28, pos := "walk.go:101", after := #[], guard := none }) rfl (fun K hK => ?_) (AllReady.cons (o := { dst := some 11, op := Op.call { callee := Callee.value (Operand.func 29), args := #[Operand.tmp 10], argTypes := #[9] }, type := 9, pos := "walk.go:101", after := #[{ on := 1, ground := Ground.data }], guard := none }) rfl (fun K hK => ?_) AllReady.nil))
    · go_simp
      refine hK _ _ ?_
      clear hK K
      refine wpAny_ready (rs := [2]) (by kernel_rfl) (by simp) (AllReady.cons (o := { dst := some 11, op := Op.call { callee := Callee.value (Operand.func 29), args := #[Operand.tmp 10], argTypes := #[9] }, type := 9, pos := "walk.go:101", after := #[{ on := 1, ground := Ground.data }], guard := none }) rfl (fun K hK => ?_) AllReady.nil)
      · refine step_goG (by rfl) 29 _ _ rfl (args := #[.string ps]) (by first | rfl | (simp [Act.eval]; done) | simp [Act.eval, Act.put]) hclone ?_
        refine hcl.mono ?_
        rintro e w1 ⟨rfl, s1⟩
        obtain ⟨a1, n1, c1, W2, hap, ⟨f1, f2, f3, f4⟩, hfin⟩ := HP.out w1 ((Stay.drew X).trans s1)
        refine ⟨_, rfl, ?_⟩
        (try go_simp)
        refine hK _ _ ?_
        clear hK K
        refine wpAny_ready (rs := [3]) (by kernel_rfl) (by simp) (AllReady.cons (o := { dst := some 12, op := Op.buildSlice 28 1 #[(0, Operand.tmp 11)], type := 28, pos := "walk.go:101", after := #[{ on := 2, ground := Ground.data }], guard := none }) rfl (fun K hK => ?_) AllReady.nil)
        · go_simp
          refine hK _ _ ?_
          clear hK K
          refine wpAny_ready (rs := [4]) (by kernel_rfl) (by simp) (AllReady.cons (o := { dst := some 13, op := Op.call { callee := Callee.builtin Builtin.append, args := #[Operand.tmp 9, Operand.tmp 12], argTypes := #[28, 28] }, type := 28, pos := "walk.go:101", after := #[{ on := 0, ground := Ground.data }, { on := 3, ground := Ground.data }, { on := 2, ground := Ground.chain }], guard := none }) rfl (fun K hK => ?_) AllReady.nil)
          · refine step_append_run rfl _ _ _ _ rfl (by first | rfl | simp [Act.eval, Act.put]) (by first | rfl | simp [Act.eval, Act.put]) hap ?_
            (try go_simp)
            refine hK _ _ ?_
            clear hK K
            refine wpAny_ready (rs := [5]) (by kernel_rfl) (by simp) (AllReady.cons (o := { dst := none, op := Op.store 28 (Operand.tmp 3) (Operand.tmp 13), type := 0, pos := "walk.go:101", after := #[{ on := 4, ground := Ground.data }, { on := 4, ground := Ground.chain }, { on := 0, ground := Ground.phase }, { on := 1, ground := Ground.phase }, { on := 2, ground := Ground.phase }, { on := 3, ground := Ground.phase }, { on := 4, ground := Ground.phase }], guard := none }) rfl (fun K hK => ?_) AllReady.nil)
            · go_simp
              refine hK _ _ ?_
              clear hK K
              refine wpAny_done (by kernel_rfl) ?_ _
              gi_wp2
              exact hfin _
    · refine step_goG (by rfl) 29 _ _ rfl (args := #[.string ps]) (by first | rfl | (simp [Act.eval]; done) | simp [Act.eval, Act.put]) hclone ?_
      refine hcl.mono ?_
      rintro e w1 ⟨rfl, s1⟩
      obtain ⟨a1, n1, c1, W2, hap, ⟨f1, f2, f3, f4⟩, hfin⟩ := HP.out w1 ((Stay.drew X).trans s1)
      refine ⟨_, rfl, ?_⟩
      (try go_simp)
      refine hK _ _ ?_
      clear hK K
      refine wpAny_ready (rs := [0, 3]) (by kernel_rfl) (by simp) (AllReady.cons (o := { dst := some 9, op := Op.load 28 (Operand.tmp 3), type := 28, pos := "walk.go:101", after := #[], guard := none }) rfl (fun K hK => ?_) (AllReady.cons (o := { dst := some 12, op := Op.buildSlice 28 1 #[(0, Operand.tmp 11)], type := 28, pos := "walk.go:101", after := #[{ on := 2, ground := Ground.data }], guard := none }) rfl (fun K hK => ?_) AllReady.nil))
      · go_simp
        refine hK _ _ ?_
        clear hK K
        refine wpAny_ready (rs := [3]) (by kernel_rfl) (by simp) (AllReady.cons (o := { dst := some 12, op := Op.buildSlice 28 1 #[(0, Operand.tmp 11)], type := 28, pos := "walk.go:101", after := #[{ on := 2, ground := Ground.data }], guard := none }) rfl (fun K hK => ?_) AllReady.nil)
        · go_simp
          refine hK _ _ ?_
          clear hK K
          refine wpAny_ready (rs := [4]) (by kernel_rfl) (by simp) (AllReady.cons (o := { dst := some 13, op := Op.call { callee := Callee.builtin Builtin.append, args := #[Operand.tmp 9, Operand.tmp 12], argTypes := #[28, 28] }, type := 28, pos := "walk.go:101", after := #[{ on := 0, ground := Ground.data }, { on := 3, ground := Ground.data }, { on := 2, ground := Ground.chain }], guard := none }) rfl (fun K hK => ?_) AllReady.nil)
          · refine step_append_run rfl _ _ _ _ rfl (by first | rfl | simp [Act.eval, Act.put]) (by first | rfl | simp [Act.eval, Act.put]) hap ?_
            (try go_simp)
            refine hK _ _ ?_
            clear hK K
            refine wpAny_ready (rs := [5]) (by kernel_rfl) (by simp) (AllReady.cons (o := { dst := none, op := Op.store 28 (Operand.tmp 3) (Operand.tmp 13), type := 0, pos := "walk.go:101", after := #[{ on := 4, ground := Ground.data }, { on := 4, ground := Ground.chain }, { on := 0, ground := Ground.phase }, { on := 1, ground := Ground.phase }, { on := 2, ground := Ground.phase }, { on := 3, ground := Ground.phase }, { on := 4, ground := Ground.phase }], guard := none }) rfl (fun K hK => ?_) AllReady.nil)
            · go_simp
              refine hK _ _ ?_
              clear hK K
              refine wpAny_done (by kernel_rfl) ?_ _
              gi_wp2
              exact hfin _
      · go_simp
        refine hK _ _ ?_
        clear hK K
        refine wpAny_ready (rs := [0]) (by kernel_rfl) (by simp) (AllReady.cons (o := { dst := some 9, op := Op.load 28 (Operand.tmp 3), type := 28, pos := "walk.go:101", after := #[], guard := none }) rfl (fun K hK => ?_) AllReady.nil)
        · go_simp
          refine hK _ _ ?_
          clear hK K
          refine wpAny_ready (rs := [4]) (by kernel_rfl) (by simp) (AllReady.cons (o := { dst := some 13, op := Op.call { callee := Callee.builtin Builtin.append, args := #[Operand.tmp 9, Operand.tmp 12], argTypes := #[28, 28] }, type := 28, pos := "walk.go:101", after := #[{ on := 0, ground := Ground.data }, { on := 3, ground := Ground.data }, { on := 2, ground := Ground.chain }], guard := none }) rfl (fun K hK => ?_) AllReady.nil)
          · refine step_append_run rfl _ _ _ _ rfl (by first | rfl | simp [Act.eval, Act.put]) (by first | rfl | simp [Act.eval, Act.put]) hap ?_
            (try go_simp)
            refine hK _ _ ?_
            clear hK K
            refine wpAny_ready (rs := [5]) (by kernel_rfl) (by simp) (AllReady.cons (o := { dst := none, op := Op.store 28 (Operand.tmp 3) (Operand.tmp 13), type := 0, pos := "walk.go:101", after := #[{ on := 4, ground := Ground.data }, { on := 4, ground := Ground.chain }, { on := 0, ground := Ground.phase }, { on := 1, ground := Ground.phase }, { on := 2, ground := Ground.phase }, { on := 3, ground := Ground.phase }, { on := 4, ground := Ground.phase }], guard := none }) rfl (fun K hK => ?_) AllReady.nil)
            · go_simp
              refine hK _ _ ?_
              clear hK K
              refine wpAny_done (by kernel_rfl) ?_ _
              gi_wp2
              exact hfin _
end Go.Proofs.Ytpnjmldbohecdaa
