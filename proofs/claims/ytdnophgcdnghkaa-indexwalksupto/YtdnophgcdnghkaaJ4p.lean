/- Clone: a table of its own with the same in it. A step of a script; a new table, a new one of the document's. What an argument that is a script is in memory. -/
import Derived.Test.YtdnophgcdnghkaaIRi
import Derived.Test.YtdnophgcdnghkaaJ3j
import Derived.Deep.RegionHeld3
import Derived.Laws.EntriesVeiled
import Derived.Test.YtdnophgcdnghkaaJ4e
import Derived.Test.YtdnophgcdnghkaaK
import Derived.JoinedCond
namespace Go.Proofs.Ytdnophgcdnghkaa.I
open Go.RowKit Go.Maps Go.Proofs.Ytdnophgcdnghkaa

theorem encEOk : EncOk 5 encE := ⟨fun _ => rfl, fun _ u hu => by simp [encE] at hu; rcases hu with rfl | rfl | rfl | rfl | rfl <;> rfl, by decide⟩
theorem flat_cellsR (l : List E) : flat l = cellsR encE l := by simp [flat, cellsR, List.flatMap]
theorem eql_e (g n c : Nat) (w : World) : (binOp .eql 62 (.slice (some ⟨g, 0, none⟩) n c) (.slice none 0 0)).run Try.prog w = .ok (.bool false) w := by kernel_rfl
theorem eql_i (g n c : Nat) (w : World) : (binOp .eql 47 (.slice (some ⟨g, 0, none⟩) n c) (.slice none 0 0)).run Try.prog w = .ok (.bool false) w := by kernel_rfl
theorem eql_en (w : World) : (binOp .eql 62 (.slice none 0 0) (.slice none 0 0)).run Try.prog w = .ok (.bool true) w := by kernel_rfl
theorem fm1 {α β : Type} (f : α → β) (l : List α) : l.flatMap (fun a => [f a]) = l.map f := by induction l <;> simp_all
theorem Came.recs {w : World} {g cap : Nat} {came : List E} (h : Came w g cap came) : RecS 5 encE w (some ⟨g, 0, none⟩) g 0 came := by
  refine ⟨fun _ => rfl, fun j hj i v hv => ?_⟩
  obtain ⟨c0, c1, c2, c3, c4⟩ := h.cells j _ (List.getElem?_eq_getElem hj)
  have hi : i < 5 := by have := (List.getElem?_eq_some_iff.1 hv).1; simpa [encE] using this
  rw [Nat.zero_add]
  match i, hi with
  | 0, _ => simp [encE] at hv; subst hv; exact c0
  | 1, _ => simp [encE] at hv; subst hv; exact c1
  | 2, _ => simp [encE] at hv; subst hv; exact c2
  | 3, _ => simp [encE] at hv; subst hv; exact c3
  | 4, _ => simp [encE] at hv; subst hv; exact c4
theorem Spots.recs {w : World} {b : Nat} {places : List Nat} (h : Spots w b places) : RecS 1 encN w (some ⟨b, 0, none⟩) b 0 (places.map fun (p : Nat) => (p : Int)) := by
  refine ⟨fun _ => rfl, fun j hj i v hv => ?_⟩
  have hi : i < 1 := by have := (List.getElem?_eq_some_iff.1 hv).1; simpa [encN] using this
  obtain rfl : i = 0 := by omega
  rw [List.length_map] at hj
  have hc := h.cell j _ (List.getElem?_eq_getElem hj)
  simp [encN] at hv
  subst hv
  simpa using hc

set_option maxRecDepth 100000 in
theorem cloneE_any {w : World} {g cap : Nat} {came : List E} (h : Came w g cap came) (hs : came.length ≤ 68719476736) : Calls Try.prog 52 #[.slice (some ⟨g, 0, none⟩) came.length cap] w fun e w' => ∃ g' cap', e = .returned (.slice (some ⟨g', 0, none⟩) came.length cap') ∧ Came w' g' cap' came ∧ w.heap.size ≤ g' ∧ Stay w w' := by
  have he := eql_e
  have ho : OwnR 75 5 encE w.heap.size (w.alloc (.cells #[] 75)) (.slice (some ⟨w.heap.size, 0, none⟩) 0 0) [] := World.ownsRow_made w #[] 0 (Nat.le_refl _) (by unfold maxLen; omega) (by simp)
  obtain ⟨v', w', hr, hO, hg, hn, hb⟩ := append_recs (ty := 62) encEOk Try.underlying62 infoEnt rfl ho (c := cap) ((h.block (Below.heap_alloc w _ g h.lt)).recs) (fun e => by cases e) (by simp; unfold maxLen; omega) (by simp; omega) (by simp)
  rw [List.nil_append] at hO
  have HF : Hid (∃ g' cap', v' = .slice (some ⟨g', 0, none⟩) came.length cap' ∧ Came w' g' cap' came ∧ w.heap.size ≤ g' ∧ Stay w w') := by
    have hO2 : w'.ownsRow 0 75 5 v' came.length (flat came) := by rw [flat_cellsR]; exact Go.Proofs.Ytdnophgcdnghkaa.I.OwnR.down hO (Nat.zero_le _)
    obtain ⟨g', cap', hv, hC⟩ := Row.of_owns hO2 (fun e => by have := hn e; simp at this)
    refine ⟨g', cap', hv, hC, (hO.lt g' (by rw [hv]; rfl)).1, ?_⟩
    exact (Stay.new w (.cells #[] 75)).grown hg (Stay.new w (.cells #[] 75)).size (fun k e => by simp [Value.ownBlock] at e; omega)
  clear h hO hg hn hb ho
  go_enter Try.func52, Try.ntmps52
  go_wp2_with (at_builtin; refine wpList_append_run rfl _ _ 62 62 rfl _ _ rfl rfl hr ?_)
  go_ret
  obtain ⟨g', cap', rfl, h2⟩ := HF.out
  exact ⟨g', cap', rfl, h2⟩
set_option maxRecDepth 100000 in
theorem cloneI_any {w : World} {b cap : Nat} {places : List Nat} (h : Spots w b places) (hs : places.length ≤ 1099511627776) : Calls Try.prog 53 #[.slice (some ⟨b, 0, none⟩) places.length cap] w fun e w' => ∃ b' cap', e = .returned (.slice (some ⟨b', 0, none⟩) places.length cap') ∧ Spots w' b' places ∧ w.heap.size ≤ b' ∧ Stay w w' := by
  have he := eql_i
  have ho : OwnR 3 1 encN w.heap.size (w.alloc (.cells #[] 3)) (.slice (some ⟨w.heap.size, 0, none⟩) 0 0) [] := World.ownsRow_made w #[] 0 (Nat.le_refl _) (by unfold maxLen; omega) (by simp)
  obtain ⟨v', w', hr, hO, hg, hn, hb⟩ := append_recs (ty := 47) encNOk Try.underlying47 infoInt rfl ho (c := cap) ((h.block (Below.heap_alloc w _ b h.lt)).recs) (fun e => by cases e) (by simp; unfold maxLen; omega) (by simp; omega) (by simp)
  rw [List.nil_append] at hO
  rw [List.length_map] at hr
  have HF : Hid (∃ b' cap', v' = .slice (some ⟨b', 0, none⟩) places.length cap' ∧ Spots w' b' places ∧ w.heap.size ≤ b' ∧ Stay w w') := by
    have hst := (Stay.new w (.cells #[] 3)).grown hg (Stay.new w (.cells #[] 3)).size (fun k e => by simp [Value.ownBlock] at e; omega)
    rcases hO.2 with ⟨h0, _⟩ | ⟨g', cap', cur, rfl, hb', h1, h2, h3, h4, h5⟩
    · have := hn h0; simp at this
    · rw [List.length_map] at h2 h5 ⊢
      refine ⟨g', cap', rfl, ⟨cur, h1, by omega, ?_⟩, hb', hst⟩
      rw [Nat.mul_one] at h5
      rw [h5]
      unfold cellsR
      rw [List.flatMap_map]
      exact fm1 _ _
  clear h hO hg hn hb ho
  go_enter Try.func53, Try.ntmps53
  go_wp2_with (at_builtin; refine wpList_append_run rfl _ _ 47 47 rfl _ _ rfl rfl hr ?_)
  go_ret
  obtain ⟨b', cap', rfl, h2⟩ := HF.out
  exact ⟨b', cap', rfl, h2⟩
theorem cloneN_any (w : World) : Calls Try.prog 52 #[.slice none 0 0] w fun e w' => e = .returned (.slice none 0 0) ∧ w' = w := by
  have he := eql_en
  go_enter Try.func52, Try.ntmps52
  go_wp2
  go_ret
  exact ⟨rfl, rfl⟩
theorem cloneR_any {w : World} {cv : Value} {came : List E} (h : Row w cv came) (hs : came.length ≤ 68719476736) : Calls Try.prog 52 #[cv] w fun e w' => ∃ cv', e = .returned cv' ∧ Row w' cv' came ∧ (∀ k, cv'.ownBlock = some k → w.heap.size ≤ k) ∧ Stay w w' := by
  rcases h with ⟨rfl, rfl⟩ | ⟨g, cap, rfl, hC⟩
  · refine (cloneN_any w).mono ?_
    rintro e w' ⟨rfl, rfl⟩
    exact ⟨_, rfl, .inl ⟨rfl, rfl⟩, fun k hk => by simp [Value.ownBlock] at hk, Stay.refl _⟩
  · refine (cloneE_any hC hs).mono ?_
    rintro e w' ⟨g', cap', rfl, hC', hg, hs⟩
    exact ⟨_, rfl, .inr ⟨g', cap', rfl, hC'⟩, fun k hk => by simp [Value.ownBlock] at hk; omega, hs⟩

/-- What Clone leaves. -/
def CloneR (w : World) (fp : Nat × Nat × Int) (N len reach : Nat) (came : List E) (places : List Nat) (e : Ending) (w' : World) : Prop :=
  ∃ bt' cv' pb', e = .returned (.pointer (some ⟨bt', 0, none⟩)) ∧ Tab w' bt' fp cv' pb' N len reach came places ∧ (∀ k, foot bt' pb' cv' k → w.heap.size ≤ k) ∧ Stay w w'
set_option maxRecDepth 100000 in
set_option maxHeartbeats 2000000 in
theorem clone_any {w : World} {bt pb N len reach : Nat} {fp : Nat × Nat × Int} {cv : Value} {came : List E} {places : List Nat} (h : Tab w bt fp cv pb N len reach came places) (hs : came.length ≤ 68719476736) :
    Calls Try.prog 34 #[.pointer (some ⟨bt, 0, none⟩)] w (CloneR w fp N len reach came places) := by
  obtain ⟨R, hR⟩ : ∃ R, R = CloneR w fp N len reach came places := ⟨_, rfl⟩
  rw [← hR]
  have HR : Hid (R = CloneR w fp N len reach came places) := hR
  clear hR
  obtain ⟨ca, cn, cc, hcv⟩ : ∃ ca cn cc, cv = .slice ca cn cc := by
    rcases h.row with ⟨rfl, _⟩ | ⟨g, cap, rfl, _⟩ <;> exact ⟨_, _, _, rfl⟩
  subst hcv
  have hm := made_yes h.box.c0
  have HT : Hid (Tab w bt fp (.slice ca cn cc) pb N len reach came places) := h
  have c0 := h.box.c0
  have c1 := h.box.c1
  have c2 := h.box.c2
  obtain ⟨pc, c3⟩ := h.box.c3
  have c4 := h.box.c4
  have c5 := h.box.c5
  have hbl := h.box.lt
  clear h
  go_enter Try.func34, Try.ntmps34
  go_wp2_with fail
  refine hm.mono ?_
  rintro e9 w9 ⟨rfl, hw⟩
  have hw' := hw.symm; subst hw'
  clear hm
  go_wp2_with fail
  obtain ⟨W1, hW1⟩ : ∃ W1, w.alloc (.cells #[.func (.func 20) #[] #[.pointer (some ⟨fp.1, 0, none⟩)], .func (.func 22) #[] #[.pointer (some ⟨fp.2.1, 0, none⟩)], .slice ca cn cc, .slice (some ⟨pb, 0, none⟩) N pc, .int .i64 (len : Int), .int .i64 (reach : Int)] 64) = W1 := ⟨_, rfl⟩
  have hB1 : W1.heap[w.heap.size]? = some (.cells #[.func (.func 20) #[] #[.pointer (some ⟨fp.1, 0, none⟩)], .func (.func 22) #[] #[.pointer (some ⟨fp.2.1, 0, none⟩)], .slice ca cn cc, .slice (some ⟨pb, 0, none⟩) N pc, .int .i64 (len : Int), .int .i64 (reach : Int)] 64 (0, 0)) := by rw [← hW1]; exact heap_new w _
  have hS1 : Stay w W1 := by rw [← hW1]; exact Stay.new _ _
  have hz1 : W1.heap.size = w.heap.size + 1 := by rw [← hW1]; simp
  rw [hW1]
  have hT1 := HT.out.turn (S := fun _ => False) (Turn.of_stay hS1) (fun _ _ e => e) (fun _ _ e => e)
  refine (cloneR_any hT1.row hs).mono ?_
  rintro e9 w2 ⟨cv', rfl, hrow2, hnew2, hs2⟩
  have hB2 := (hs2.block w.heap.size (by omega)).trans hB1
  have hz2 := hs2.size
  have hT2 := hT1.turn (S := fun _ => False) (Turn.of_stay hs2) (fun _ _ e => e) (fun _ _ e => e)
  obtain ⟨va, vn, vc, hcv'⟩ : ∃ ca cn cc, cv' = .slice ca cn cc := by
    rcases hrow2 with ⟨rfl, _⟩ | ⟨g, cap, rfl, _⟩ <;> exact ⟨_, _, _, rfl⟩
  subst hcv'
  have H2 : Hid (Stay w w2 ∧ Row w2 (.slice va vn vc) came ∧ (∀ k, (Value.slice va vn vc).ownBlock = some k → w.heap.size + 1 ≤ k) ∧ Tab w2 bt fp (.slice ca cn cc) pb N len reach came places ∧ w2.heap[w.heap.size]? = some (.cells #[.func (.func 20) #[] #[.pointer (some ⟨fp.1, 0, none⟩)], .func (.func 22) #[] #[.pointer (some ⟨fp.2.1, 0, none⟩)], .slice ca cn cc, .slice (some ⟨pb, 0, none⟩) N pc, .int .i64 (len : Int), .int .i64 (reach : Int)] 64 (0, 0))) :=
    ⟨hS1.trans hs2, hrow2, fun k hk => by have := hnew2 k hk; omega, hT2, hB2⟩
  have k2 : w2.cell? ⟨w.heap.size, 2, none⟩ = some (.slice ca cn cc) := by simp [World.cell?, hB2]
  have f2 : w2.frozen? ⟨w.heap.size, 2, none⟩ = false := by simp [World.frozen?, hB2]
  have c3' := (hS1.trans hs2).cell c3
  have hl2 : w.heap.size < w2.heap.size := by omega
  have hbl2 : bt < w2.heap.size := by omega
  clear c0 c1 c2 c3 c4 c5 hW1 hB1 hS1 hz1 hT1 hrow2 hnew2 hs2 hB2 hz2 hT2
  go_wp2_with fail
  obtain ⟨W3, hW3⟩ : ∃ W3, w2.setCell ⟨w.heap.size, 2, none⟩ (.slice va vn vc) = W3 := ⟨_, rfl⟩
  rw [hW3]
  have hT3 : Turn (fun k => k = w.heap.size) w2 W3 := by rw [← hW3]; exact (Turn.refl (fun k => k = w.heap.size) w2).set rfl _ _
  have hB3 := heap_setCell_same _ w.heap.size 2 _ _ (.slice va vn vc) H2.out.2.2.2.2
  rw [hW3] at hB3
  simp at hB3
  have hpl := HT.out.lt pb (.inl (.inr (.inl rfl)))
  have hsp : Spots W3 pb places := H2.out.2.2.2.1.spots.turn hT3 (by omega)
  have hrow3 : Row W3 (.slice va vn vc) came := H2.out.2.1.turn hT3 (fun k hk e => by have := H2.out.2.2.1 k hk; omega)
  have hln := HT.out.lies.len
  have hbd := HT.out.pow.bd
  have hci := cloneI_any (cap := pc) hsp (by omega)
  rw [hln] at hci
  refine hci.mono ?_
  rintro e9 w4 ⟨pb', pc', rfl, hsp4, hpb', hs4⟩
  have hB4 := (hs4.block w.heap.size (by have := hT3.size; omega)).trans hB3
  have k3 : w4.cell? ⟨w.heap.size, 3, none⟩ = some (.slice (some ⟨pb, 0, none⟩) N pc) := by simp [World.cell?, hB4]
  have f3 : w4.frozen? ⟨w.heap.size, 3, none⟩ = false := by simp [World.frozen?, hB4]
  have hl4 : w.heap.size < w4.heap.size := by have := hT3.size; have := hs4.size; omega
  have hB5 := heap_setCell_same _ w.heap.size 3 _ _ (.slice (some ⟨pb', 0, none⟩) N pc') hB4
  simp at hB5
  have hT5 : Turn (fun k => k = w.heap.size) w4 (w4.setCell ⟨w.heap.size, 3, none⟩ (.slice (some ⟨pb', 0, none⟩) N pc')) := (Turn.refl (fun k => k = w.heap.size) w4).set rfl _ _
  have hpb2 : w.heap.size + 1 ≤ pb' := by have := hT3.size; omega
  have hpb3 : ∀ k, (Value.slice va vn vc).ownBlock = some k → k < W3.heap.size := fun k hk => by
    have := hrow3
    rcases this with ⟨h0, _⟩ | ⟨g, cap, h0, hC⟩
    · rw [h0] at hk; simp [Value.ownBlock] at hk
    · rw [h0] at hk; simp [Value.ownBlock] at hk; have := hC.lt; omega
  have HF : Hid (R (.returned (.pointer (some ⟨w.heap.size, 0, none⟩))) (w4.setCell ⟨w.heap.size, 3, none⟩ (.slice (some ⟨pb', 0, none⟩) N pc'))) := by
    show R _ _
    rw [HR.out]
    have hSt : Stay w (w4.setCell ⟨w.heap.size, 3, none⟩ (.slice (some ⟨pb', 0, none⟩) N pc')) := hT5.stay ((hT3.stay H2.out.1 (fun k hk e => by omega)).trans hs4) (fun k hk e => by omega)
    have hT := HT.out
    refine ⟨w.heap.size, .slice va vn vc, pb', rfl, ⟨⟨pc', hB5⟩, ?_, hsp4.turn hT5 (by omega), ?_, hT.pow, hT.eight, hT.lies, hT.zer, hT.cnt, hT.few, hT.rlt, hT.keys, hT.uniq, ?_, ?_, hT.short⟩, ?_, hSt⟩
    · exact (hrow3.turn (S := fun _ => False) (Turn.of_stay hs4) (fun _ _ e => e)).turn hT5 (fun k hk e => by have := H2.out.2.2.1 k hk; omega)
    · exact hT.fns.turn (S := fun _ => False) (Turn.of_stay hSt) (fun _ _ e => e)
    · intro k hk
      have := hT.lt k (.inr hk)
      exact ⟨by omega, by omega, fun e => by have := H2.out.2.2.1 k e; omega⟩
    · refine ⟨by omega, fun e => by have := H2.out.2.2.1 _ e; omega, fun e => by have := hpb3 _ e; omega⟩
    · rintro k (hk | hk | hk)
      · omega
      · omega
      · have := H2.out.2.2.1 k hk; omega
  clear hW3 hT3 hB3 hsp hrow3 hci hsp4 hs4 hB4 hB5 hT5 hpb3 H2 HT hpb' hln hbd k2 f2 c3' HR
  go_wp2_with fail
  exact HF.out
end Go.Proofs.Ytdnophgcdnghkaa.I
namespace Go.Proofs.Ytdnophgcdnghkaa.I
open Go.RowKit Go.Maps Go.Proofs.Ytdnophgcdnghkaa

/-- A step of a script: kind, on, key, value, leave. -/
abbrev St := Int × Int × Int × Int × Int
def encSt (s : St) : List Value := [.int .i64 s.1, .int .i64 s.2.1, .int .i64 s.2.2.1, .int .i64 s.2.2.2.1, .int .i64 s.2.2.2.2]
theorem encStOk : EncOk 5 encSt := ⟨fun _ => rfl, fun _ u hu => by simp [encSt] at hu; rcases hu with rfl | rfl | rfl | rfl | rfl <;> rfl, by decide⟩
def St.Ok (s : St) : Prop := KeyOk s.2.1 ∧ KeyOk s.2.2.1 ∧ KeyOk s.2.2.2.1 ∧ KeyOk s.2.2.2.2
section
variable {fp : Nat × Nat × Int}
theorem t_new {W : World} (hF : Fns W fp) (o : Nat → Nat) : Calls Try.prog 5 #[(.func (.func 20) #[] #[.pointer (some ⟨fp.1, 0, none⟩)]), (.func (.func 22) #[] #[.pointer (some ⟨fp.2.1, 0, none⟩)])] W fun e w' =>
    e = .returned (.tuple #[.pointer (some ⟨W.heap.size + 1, 0, none⟩), .int .i64 0]) ∧ TS w' fp (W.heap.size + 1) [] 8 0 (lab W o (W.heap.size + 1 + 1)) ∧ Stay W w' := by
  refine (new_any hF).mono ?_
  rintro e w' ⟨rfl, hT, hs⟩
  refine ⟨rfl, ⟨_, _, _, _, _, _, hT, rfl, Nat.le_refl _, by omega, fun k hk => lab_new ?_⟩, hs⟩
  rcases hk with rfl | rfl | hk
  · omega
  · omega
  · simp [Value.ownBlock] at hk
theorem r_new (W : World) (way : Int) (hw : KeyOk way) (o : Nat → Nat) : Calls Try.prog 8 #[.int .i64 way] W fun e w' => e = .returned (.pointer (some ⟨W.heap.size, 0, none⟩)) ∧ RS w' W.heap.size way [] 8 (lab W o (W.heap.size + 1)) ∧ Stay W w' := by
  refine (rNew_any W way hw).mono ?_
  rintro e w' ⟨rfl, hR, hs⟩
  refine ⟨rfl, ⟨_, _, _, hR, fun k hk => lab_new ?_⟩, hs⟩
  rcases hk with rfl | hk
  · omega
  · simp [Value.ownBlock] at hk
end
end Go.Proofs.Ytdnophgcdnghkaa.I
namespace Go.Proofs.Ytdnophgcdnghkaa
open Go.ChangeShapes Go.WideShapes Go.ChangeAt Go.RowKit Go.Proofs.Ytdnophgcdnghkaa.I

theorem cellsSt : Try.prog.cellsOf 42 = 5 := by kernel_rfl
theorem trod_struct5 {P : Program} {H : Type} {enc : TypeId × Value → H} {w : World} {base : Nat} {spare : TypeId → Bool} {held : Bool} {t : TypeId} {f0 f1 f2 f3 f4 : Field} {fuel : Nat} {cs : List Value} {x : DataW H × List MemPlace} (ht : P.underlying t = some (.struct #[f0, f1, f2, f3, f4])) (h : DataW.trod enc P w base spare held fuel t cs = some x) :
    ∃ y0 y1 y2 y3 y4 n, x = (.agg [y0.1, y1.1, y2.1, y3.1, y4.1], y0.2 ++ (y1.2 ++ (y2.2 ++ (y3.2 ++ y4.2)))) ∧ cs.length = P.cellsOf t ∧ DataW.trod enc P w base spare held n f0.type ((cs.drop f0.offset).take (P.cellsOf f0.type)) = some y0 ∧
      DataW.trod enc P w base spare held n f1.type ((cs.drop f1.offset).take (P.cellsOf f1.type)) = some y1 ∧ DataW.trod enc P w base spare held n f2.type ((cs.drop f2.offset).take (P.cellsOf f2.type)) = some y2 ∧
      DataW.trod enc P w base spare held n f3.type ((cs.drop f3.offset).take (P.cellsOf f3.type)) = some y3 ∧ DataW.trod enc P w base spare held n f4.type ((cs.drop f4.offset).take (P.cellsOf f4.type)) = some y4 := by
  obtain ⟨xs, n, _, rfl, hl, hlen, hf⟩ := DataW.trod_struct ht h
  match xs, hlen with
  | [y0, y1, y2, y3, y4], _ => exact ⟨y0, y1, y2, y3, y4, n, by simp, hl, by simpa using hf 0 f0 rfl, by simpa using hf 1 f1 rfl, by simpa using hf 2 f2 rfl, by simpa using hf 3 f3 rfl, by simpa using hf 4 f4 rfl⟩
theorem list_every {α : Type} {p : Nat → α → Prop} : ∀ (n : Nat), (∀ i, i < n → ∃ x, p i x) → ∃ l : List α, l.length = n ∧ ∀ i (h : i < l.length), p i l[i]
  | 0, _ => ⟨[], rfl, fun i h => absurd h (Nat.not_lt_zero _)⟩
  | n + 1, h => by
    obtain ⟨l, h1, h2⟩ := list_every n (fun i hi => h i (by omega))
    obtain ⟨x, hx⟩ := h n (by omega)
    refine ⟨l ++ [x], by simp [h1], fun i hi => ?_⟩
    by_cases hl : i < l.length
    · rw [List.getElem_append_left hl]; exact h2 i hl
    · simp at hi
      obtain rfl : i = n := by omega
      rw [List.getElem_append_right (by omega)]
      simpa [h1] using hx
theorem key_ok {z : Int} (h : (Lit.int .i64 z).wf = true) : KeyOk z := by
  unfold KeyOk
  simpa [Lit.wf, IntKind.min, IntKind.max, IntKind.signed, IntKind.bits] using h
section
variable {H : Type} {enc : TypeId × Value → H} {W : World}
set_option maxRecDepth 100000 in
theorem open_st {cs : List Value} {y : DataW H × List MemPlace} {n : Nat} (h : DataW.trod enc Try.prog W 0 (fun _ => true) true n 42 cs = some y) : ∃ s : St, cs = encSt s ∧ s.Ok := by
  obtain ⟨y0, y1, y2, y3, y4, m, _, hl, h0, h1, h2, h3, h4⟩ := trod_struct5 Try.underlying42 h
  rw [cellsSt] at hl
  match cs, hl with
  | [c0, c1, c2, c3, c4], _ =>
    obtain ⟨x0, e0, _, _⟩ := DataW.trod_int Try.underlying3 h0
    obtain ⟨x1, e1, _, w1⟩ := DataW.trod_int Try.underlying3 h1
    obtain ⟨x2, e2, _, w2⟩ := DataW.trod_int Try.underlying3 h2
    obtain ⟨x3, e3, _, w3⟩ := DataW.trod_int Try.underlying3 h3
    obtain ⟨x4, e4, _, w4⟩ := DataW.trod_int Try.underlying3 h4
    simp only [cellsI] at e0 e1 e2 e3 e4
    simp at e0 e1 e2 e3 e4
    exact ⟨(x0, x1, x2, x3, x4), by simp [encSt, e0, e1, e2, e3, e4], key_ok w1, key_ok w2, key_ok w3, key_ok w4⟩
theorem open_sts {a0 : Option Addr} {len cap : Nat} {d : DataW H} {p : List MemPlace} (h : DataW.Trod enc Try.prog W 0 (fun _ => true) true 22 (.slice a0 len cap) d p) :
    ∃ (b off : Nat) (ss : List St), RecS 5 encSt W a0 b off ss ∧ len = ss.length ∧ (∀ s ∈ ss, s.Ok) ∧ (d = .nil ∧ ss = [] ∨ ∃ elems spare, d = .slice elems spare ∧ elems.length = ss.length) := by
  obtain ⟨fuel, hf⟩ := h
  rcases DataW.trod_slice Try.underlying22 hf with ⟨hcs, hx⟩ | ⟨a, len', cap', elems, rest, n, _, hcs, hx, _, hl, hm, hlen, hel, _, _⟩
  · simp [Value.cells] at hcs
    obtain ⟨rfl, rfl, rfl⟩ := hcs
    simp only [Prod.mk.injEq] at hx
    exact ⟨0, 0, [], ⟨fun h => absurd h (Nat.lt_irrefl _), fun j hj => by simp at hj⟩, rfl, fun s hs => by simp at hs, .inl ⟨hx.1, rfl⟩⟩
  · simp [Value.cells] at hcs
    obtain ⟨rfl, rfl, rfl⟩ := hcs
    simp only [Prod.mk.injEq] at hx
    have each : ∀ i, i < len → ∃ s : St, (∀ k v, (encSt s)[k]? = some v → W.cell? ((a.add (i * 5)).add k) = some v) ∧ s.Ok := by
      intro i hi
      have h1 := hel i hi
      rw [cellsSt, List.getElem?_eq_getElem (by omega)] at h1
      obtain ⟨cs, h2, h3⟩ := Option.bind_eq_some_iff.1 h1
      obtain ⟨s, rfl, hs⟩ := open_st h3
      obtain ⟨_, _, hc⟩ := World.cells?_some h2
      refine ⟨s, fun k v hv => ?_, hs⟩
      have hk : k < 5 := by have := (List.getElem?_eq_some_iff.1 hv).1; rwa [encStOk.len] at this
      rw [hc k hk]
      exact hv
    obtain ⟨ss, ht, he⟩ := list_every len each
    obtain ⟨b, off, spot⟩ := a
    have hspot : 0 < ss.length → spot = none := fun h => by
      have := (he 0 h).1 0 _ rfl
      simpa [Addr.add] using World.cell?_spot this
    refine ⟨b, off, ss, ⟨fun h => by rw [hspot h], fun j hj k v hv => ?_⟩, ht.symm, fun s hs => ?_, .inr ⟨_, _, hx.1, by simp; omega⟩⟩
    · have h1 := (he j hj).1 k v hv
      obtain rfl := hspot (by omega)
      rwa [add_at, add_at] at h1
    · obtain ⟨j, hj, rfl⟩ := List.mem_iff_getElem.1 hs
      exact (he j hj).2
theorem bulk_one (d : DataW H) : 1 ≤ Rows.uptoBulk d := by
  cases d with
  | lit l => cases l <;> simp [Rows.uptoBulk]
  | _ => simp [Rows.uptoBulk]
theorem bulk_len : ∀ (l : List (DataW H)), l.length ≤ Rows.uptoBulkAll l
  | [] => by simp
  | x :: r => by have := bulk_len r; have := bulk_one x; simp only [Rows.uptoBulkAll, List.length_cons]; omega
theorem bulk_sts {d : DataW H} {ss : List St} (hx : d = .nil ∧ ss = [] ∨ ∃ elems spare, d = .slice elems spare ∧ elems.length = ss.length) : ss.length ≤ Rows.uptoBulk d := by
  rcases hx with ⟨_, rfl⟩ | ⟨elems, spare, rfl, hl⟩
  · simp
  · simp only [Rows.uptoBulk]
    have h1 := bulk_len elems
    omega
end
end Go.Proofs.Ytdnophgcdnghkaa
