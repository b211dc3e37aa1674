/- closeGaps, walked. -/
import Derived.Test.YtdnophgcdnghkaaIXi
import Derived.Test.YtdnophgcdnghkaaIWi
namespace Go.Proofs.Ytdnophgcdnghkaa.I
open Go.RowKit Go.Maps Go.Proofs.Ytdnophgcdnghkaa

/-- The row when i entries have been looked at. -/
def closeL (came : List E) (i : Nat) : List E := live (came.take i) ++ came.drop (rank came i)

section
variable {w : World} {bt g cap pb N len reach : Nat} {fp : Nat × Nat × Int} {came : List E} {places : List Nat}

theorem rank_le (came : List E) (i : Nat) : rank came i ≤ i := live_take_le came i
theorem closeL_zero (came : List E) : closeL came 0 = came := by simp [closeL, live, rank]
theorem closeL_len (came : List E) (i : Nat) (h : i ≤ came.length) : (closeL came i).length = came.length := by
  have := rank_le came i
  unfold closeL
  rw [List.length_append, List.length_drop]
  unfold rank at *
  omega
theorem closeL_at (came : List E) (i : Nat) : (closeL came i)[i]? = came[i]? := by
  have := rank_le came i
  unfold closeL
  rw [List.getElem?_append_right (by unfold rank at this; exact this), List.getElem?_drop]
  congr 1
  unfold rank at *; omega
theorem closeL_skip (came : List E) {i : Nat} {e : E} (he : came[i]? = some e) (hth : e.there = false) : closeL came (i + 1) = closeL came i ∧ rank came (i + 1) = rank came i := by
  have h1 : live (came.take (i + 1)) = live (came.take i) := by rw [live_take he, if_neg (by rw [hth]; decide)]
  have h2 : rank came (i + 1) = rank came i := by unfold rank; rw [h1]
  exact ⟨by unfold closeL; rw [h1, h2], h2⟩
theorem closeL_step (came : List E) {i : Nat} {e : E} (he : came[i]? = some e) (hth : e.there = true) : closeL came (i + 1) = (closeL came i).set (rank came i) e ∧ rank came (i + 1) = rank came i + 1 := by
  have h1 : live (came.take (i + 1)) = live (came.take i) ++ [e] := by rw [live_take he, if_pos hth]
  have h2 : rank came (i + 1) = rank came i + 1 := by unfold rank; rw [h1]; simp
  have hl := (List.getElem?_eq_some_iff.1 he).1
  have hr := rank_le came i
  refine ⟨?_, h2⟩
  unfold closeL
  rw [h1, h2, List.set_append, if_neg (by unfold rank; omega), List.append_assoc]
  congr 1
  rw [show rank came i - (live (came.take i)).length = 0 by unfold rank; omega, List.drop_eq_getElem_cons (show rank came i < came.length by omega), List.set_cons_zero]
  rfl
theorem closeL_end (came : List E) : closeL came came.length = live came ++ came.drop (live came).length ∧ rank came came.length = (live came).length := by
  unfold closeL rank
  rw [List.take_length]
  exact ⟨rfl, rfl⟩

theorem wpList_clear_rest {ops : Array Oper} {rest : List Oper} {o : Oper} {ac : Act} {Q : Exit → Act → World → Prop} (hgd : o.guard = none) (s : Operand) (ho : o.op = .call { callee := .builtin .clear, args := #[s], argTypes := #[62] })
    {L : List E} (hC : Came w g cap L) {j n : Nat} (hn : L.length = n) (hj : j < n) (c : Nat) (hs : ac.eval s = .slice (some ⟨g, j * 5, none⟩) (n - j) c)
    (h : ∀ w', Came w' g cap (L.take j) → Turn (fun k => k = g) w w' → wpList Try.prog ops Q rest (ac.put o.dst (.tuple #[])) w') :
    wpList Try.prog ops Q (o :: rest) ac w := by
  subst hn
  refine wpList_plain hgd fun K hK => ?_
  obtain ⟨w', hr, k1, k2⟩ := run_clear_rest hC hj c o.type
  unfold Oper.wp execOp
  simp only [ho, resolve, invoke, builtin, Sem.run_bind, Sem.run_pure, Result.andThen_ok, List.map_toArray, List.map_cons, List.map_nil, hs, hr]
  exact hK _ _ (h w' k1 k2)

/-- The row of a table turns, all else of it stays. -/
theorem Mem.reRow {w' : World} {L L' : List E} (h : Mem w bt fp g cap pb N len reach L places) (hC : Came w' g cap L') (hT : Turn (fun k => k = g) w w') (hl : L'.length = L.length) : Mem w' bt fp g cap pb N len reach L' places := by
  refine ⟨?_, hC, h.spots.turn hT (h.ne.c), h.ne, h.len⟩
  have := h.box.turn hT (h.ne.b)
  rw [hl]; exact this

/-- What holds between two rounds. -/
structure Cl (w wr : World) (bt : Nat) (fp : Nat × Nat × Int) (g cap pb N len reach : Nat) (came : List E) (places places' : List Nat) (i : Nat) : Prop where
  mem : Mem wr bt fp g cap pb N len reach (closeL came i) places'
  cl : Closes came places places' i
  turn : Turn (three bt pb g) w wr

set_option maxRecDepth 100000 in
set_option maxHeartbeats 2000000 in
theorem closeGaps_any (h : Mem w bt fp g cap pb N len reach came places) (hL : Lies N came.length reach came places) (_hb : 0 < N ∧ N ≤ 1099511627776) (hgap : (live came).length < came.length) (hshort : came.length ≤ 1099511627776) :
    Calls Try.prog 49 #[.pointer (some ⟨bt, 0, none⟩)] w fun e' w' => e' = .returned (.tuple #[]) ∧ ∃ places', Mem w' bt fp g cap pb N len reach (live came) places' ∧ Lies N (live came).length reach (live came) places' ∧ zeros places' = zeros places ∧ Turn (three bt pb g) w w' := by
  have c2 := h.box.c2
  have hcl := h.row.len
  unfold maxLen at hcl
  have HC0 : Hid (Cl w w bt fp g cap pb N len reach came places places 0) := ⟨by rw [closeL_zero]; exact h, Closes.start came places, Turn.refl _ _⟩
  have HL : Hid (Lies N came.length reach came places) := hL
  clear h hL
  go_enter Try.func49, Try.ntmps49
  go_wp2_with fail
  go_loopw [2, 4, 15] (fun ur _ue ui wr => ∃ (i : Nat) (places' : List Nat), i ≤ came.length ∧ ur = .slice (some ⟨g, 0, none⟩) (rank came i) cap ∧ ui = .int .i64 (i : Int) ∧ Cl w wr bt fp g cap pb N len reach came places places' i) (fun _ur _ue ui _ => came.length - (intOf ui).toNat)
  case atStart => exact ⟨0, places, Nat.zero_le _, rfl, rfl, HC0.out⟩
  case round =>
    obtain ⟨i, places', hi, rfl, rfl, hR⟩ := hrel
    clear c2 HC0
    by_cases hlt : i < came.length
    · obtain ⟨e, he⟩ : ∃ e, came[i]? = some e := ⟨_, List.getElem?_eq_getElem hlt⟩
      have hcs := hR.mem.row.cells i e (by rw [closeL_at]; exact he)
      obtain ⟨c0, c1, c2, c3, c4⟩ := hcs
      have hii : (i : Int) < (came.length : Int) := by omega
      have HR : Hid (Cl w wr bt fp g cap pb N len reach came places places' i ∧ came[i]? = some e) := ⟨hR, he⟩
      clear hR he
      have hwb : bt < wr.heap.size ∧ pb < wr.heap.size ∧ g < wr.heap.size := ⟨HR.out.1.mem.box.lt, HR.out.1.mem.spots.lt, HR.out.1.mem.row.lt⟩
      cases hth : e.there with
      | false =>
        rw [hth] at c4
        go_wp2_with fail
        obtain ⟨hR, he⟩ := HR.out
        have hsk := closeL_skip came he hth
        refine ⟨⟨i + 1, places', hlt, by rw [hsk.2], by simp, ⟨?_, hR.cl.skip (fun e' he' => ?_), hR.turn.trans (Turn.of_stay (Stay.new _ _))⟩⟩, by simp [intOf]; omega⟩
        · rw [hsk.1]
          exact hR.mem.turn (S := fun _ => False) (Turn.of_stay (Stay.new _ _)) (fun _ _ e => e)
        · rw [he] at he'; simp only [Option.some.injEq] at he'; subst he'; exact hth
      | true =>
        rw [hth] at c4
        have hM2 : Mem ((wr.alloc (.cells #[.int .i64 (e.key), .int .i64 (e.val), .int .u64 e.hash, .int .i64 e.place, .bool true] 75)).alloc (.cells #[.int .i64 (e.key), .int .i64 (e.val), .int .u64 e.hash, .int .i64 e.place, .bool true] 75)) bt fp g cap pb N len reach (closeL came i) places' :=
          HR.out.1.mem.turn (S := fun _ => False) (Turn.of_stay ((Stay.new _ _).alloc _)) (fun _ _ e => e)
        have hT2 : Turn (three bt pb g) w ((wr.alloc (.cells #[.int .i64 (e.key), .int .i64 (e.val), .int .u64 e.hash, .int .i64 e.place, .bool true] 75)).alloc (.cells #[.int .i64 (e.key), .int .i64 (e.val), .int .u64 e.hash, .int .i64 e.place, .bool true] 75)) := HR.out.1.turn.trans (Turn.of_stay ((Stay.new _ _).alloc _))
        have hnews : ∀ j u, (encE e)[j]? = some u → ((wr.alloc (.cells #[.int .i64 (e.key), .int .i64 (e.val), .int .u64 e.hash, .int .i64 e.place, .bool true] 75)).alloc (.cells #[.int .i64 (e.key), .int .i64 (e.val), .int .u64 e.hash, .int .i64 e.place, .bool true] 75)).cell? ((⟨wr.heap.size + 1, 0, none⟩ : Addr).add j) = some u := by
          have := new_cells (wr.alloc (.cells #[.int .i64 (e.key), .int .i64 (e.val), .int .u64 e.hash, .int .i64 e.place, .bool true] 75)) (encE e) 75
          rw [World.size_alloc] at this
          unfold encE at this ⊢
          rw [hth] at this ⊢
          exact this
        have hbx : ((wr.alloc (.cells #[.int .i64 (e.key), .int .i64 (e.val), .int .u64 e.hash, .int .i64 e.place, .bool true] 75)).alloc (.cells #[.int .i64 (e.key), .int .i64 (e.val), .int .u64 e.hash, .int .i64 e.place, .bool true] 75)).cell? ⟨wr.heap.size, 3, none⟩ = some (.int .i64 e.place) := by
          refine (Stay.new _ _).cell ?_
          have := new_cells wr [.int .i64 (e.key), .int .i64 (e.val), .int .u64 e.hash, .int .i64 e.place, .bool true] 75 3 _ rfl
          rw [add_at] at this
          exact this
        have hj : rank came i < (closeL came i).length := by have := rank_le came i; rw [closeL_len came i hi]; omega
        have hjm : rank came i ≤ 1099511627776 := by have := rank_le came i; omega
        have H2 : Hid _ := And.intro hM2 (And.intro hT2 hbx)
        have hC2 := hM2.row
        clear hM2 hT2 hbx
        go_wp2_with (at_builtin; refine wpList_append_over rfl _ _ rfl hC2 rfl hj e ⟨wr.heap.size + 1, 0, none⟩ 1 rfl hnews ?_; intro w3 hC3 hT3; have H3 : Hid _ := And.intro hC3 hT3; clear hC3 hT3 hC2 hnews)
        obtain ⟨hR, he⟩ := HR.out
        have hst := closeL_step came he hth
        have hM3 := (H2.out.1).reRow H3.out.1 H3.out.2 (by rw [List.length_set])
        rw [← hst.1] at hM3
        have hT3 : Turn (three bt pb g) w w3 := H2.out.2.1.trans (H3.out.2.mono (fun k _ hk => .inr (.inr hk)))
        obtain ⟨pc4, d3⟩ := hM3.box.c3
        have db := H3.out.2.cell H2.out.2.2 (by show ¬ wr.heap.size = g; omega)
        have hpl := HL.out.here i e hlt he hth
        obtain ⟨v, hv⟩ : ∃ v, places'[e.place]? = some v := ⟨_, List.getElem?_eq_getElem (by rw [hM3.len]; exact hpl.1)⟩
        have dv := hM3.spots.cell e.place v hv
        have fv := hM3.spots.free e.place
        have hpn : e.place < N := hpl.1
        have H4 : Hid (Mem w3 bt fp g cap pb N len reach (closeL came (i + 1)) places' ∧ Turn (three bt pb g) w w3 ∧ Closes came places places' i ∧ rank came (i + 1) = rank came i + 1 ∧ came[i]? = some e) := ⟨hM3, hT3, hR.cl, hst.2, he⟩
        clear hR he hst hM3 hT3 hpl hv H2 H3 HR
        go_region
        go_wp2_with fail
        obtain ⟨hM3, hT3, hcl3, hrk, he⟩ := H4.out
        refine ⟨⟨i + 1, _, hlt, by rw [hrk], by simp, ⟨(hM3.setSpot e.place (rank came i + 1)).drew 1, hcl3.step HL.out he hth, (hT3.set (.inr (.inl rfl)) _ _).trans (Turn.of_stay (Stay.drew _))⟩⟩, by simp [intOf]; omega⟩
    · obtain rfl : i = came.length := by omega
      have hend := closeL_end came
      have hlen := closeL_len came came.length (Nat.le_refl _)
      have d2 := hR.mem.box.c2
      rw [hlen] at d2
      have f2 := hR.mem.box.free 2
      have hC := hR.mem.row
      have HR : Hid (Cl w wr bt fp g cap pb N len reach came places places' came.length) := hR
      have HK : Hid (closeL came came.length = live came ++ came.drop (live came).length ∧ (closeL came came.length).length = came.length) := ⟨hend.1, hlen⟩
      rw [hend.2]
      have hjl : ((live came).length : Int) ≤ (came.length : Int) := by omega
      clear hR hend hlen
      go_wp2_with (refine wpList_clear_rest rfl _ rfl hC HK.out.2 hgap _ rfl ?_; intro w3 hC3 hT3; have e2 := (HR.out.mem.box.turn hT3 HR.out.mem.ne.b).c2; have g2 := (HR.out.mem.box.turn hT3 HR.out.mem.ne.b).free 2; have H3 : Hid _ := And.intro hC3 hT3; clear hC3 hT3 hC)
      have hT3 : Turn (three bt pb g) w w3 := HR.out.turn.trans (H3.out.2.mono (fun k _ hk => .inr (.inr hk)))
      have hrow := H3.out.1
      rw [HK.out.1, List.take_left'  rfl] at hrow
      have hbox := HR.out.mem.box.turn H3.out.2 HR.out.mem.ne.b
      have hM : Mem (w3.setCell ⟨bt, 2, none⟩ (.slice (some ⟨g, 0, none⟩) (live came).length cap)) bt fp g cap pb N len reach (live came) places' := by
        refine ⟨?_, hrow.storeOther _ _ _ (Ne.symm HR.out.mem.ne.b), (HR.out.mem.spots.turn H3.out.2 HR.out.mem.ne.c).storeOther _ _ _ (Ne.symm HR.out.mem.ne.a), HR.out.mem.ne, HR.out.mem.len⟩
        obtain ⟨pc0, hbox⟩ := hbox
        refine ⟨pc0, ?_⟩
        rw [heap_setCell_same _ _ _ _ _ _ hbox]
        simp
      go_end0
      exact ⟨rfl, places', hM, HR.out.cl.done HL.out, HR.out.cl.zer, hT3.set (.inl rfl) _ _⟩
end
end Go.Proofs.Ytdnophgcdnghkaa.I
