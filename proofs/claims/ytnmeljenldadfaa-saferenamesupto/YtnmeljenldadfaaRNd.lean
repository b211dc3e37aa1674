/- A rule renamed: renamed. -/
import Derived.Test.YtnmeljenldadfaaRN
import Derived.Test.YtnmeljenldadfaaEY
namespace Go.Proofs.Ytnmeljenldadfaa
open Go.RowKit Go.Maps Go.Shelf

theorem region_wpH {id : Nat} {P : Program} {os : List Oper} {Q : Exit → Act → World → Prop} {S : World → Prop} {a : Act} {w : World} (hm : P.follows .mixedOrders = true) (h : wpAnyH P .any os.toArray (normQ Q) S os.toArray.size (Array.replicate os.toArray.size false) a w.drew) : (Code.region id os.toArray true).wp P Q a w :=
  region_wp hm (wpAny_of_held _ _ _ _ h)
theorem two_keep {W W' : World} {b : Nat} {c0 c1 : Value} (h : W.cell? ⟨b, 0, none⟩ = some c0 ∧ W.cell? ⟨b, 0 + 1, none⟩ = some c1) (hs : Stay W W') : W'.cell? ⟨b, 0, none⟩ = some c0 ∧ W'.cell? ⟨b, 0 + 1, none⟩ = some c1 := ⟨hs.cell h.1, hs.cell h.2⟩

theorem box_new {w0 W1 : World} {o1 o2 o3 : Value} {t : TypeId} (h : Stay (w0.drew.alloc (.cells #[o1, o2, o3] t)) W1) : W1.heap[w0.heap.size]? = some (.cells #[o1, o2, o3] t (0, 0)) :=
  (h.block _ (by rw [World.size_alloc]; exact Nat.lt_succ_self _)).trans (heap_new w0.drew (.cells #[o1, o2, o3] t))
theorem box_cells {W1 : World} {b : Nat} {o1 o2 o3 : Value} {t : TypeId} (h : W1.heap[b]? = some (.cells #[o1, o2, o3] t (0, 0))) : W1.cell? ⟨b, 0, none⟩ = some o1 ∧ W1.cell? ⟨b, 1, none⟩ = some o2 ∧ W1.cell? ⟨b, 2, none⟩ = some o3 ∧ W1.frozen? ⟨b, 0, none⟩ = false ∧ W1.frozen? ⟨b, 1, none⟩ = false ∧ W1.frozen? ⟨b, 2, none⟩ = false :=
  ⟨by rw [Lib.cell_of_heap h]; rfl, by rw [Lib.cell_of_heap h]; rfl, by rw [Lib.cell_of_heap h]; rfl, Lib.frozen_of_heap h 0, Lib.frozen_of_heap h 1, Lib.frozen_of_heap h 2⟩
theorem two_store {W : World} {n b : Nat} {c0 c1 x0 x1 x2 : Value} (h : W.cell? ⟨n, 0, none⟩ = some c0 ∧ W.cell? ⟨n, 0 + 1, none⟩ = some c1) (hne : n ≠ b) :
    (((W.setCell ⟨b, 0, none⟩ x0).setCell ⟨b, 1, none⟩ x1).setCell ⟨b, 2, none⟩ x2).cell? ⟨n, 0, none⟩ = some c0 ∧ (((W.setCell ⟨b, 0, none⟩ x0).setCell ⟨b, 1, none⟩ x1).setCell ⟨b, 2, none⟩ x2).cell? ⟨n, 0 + 1, none⟩ = some c1 := by
  refine ⟨?_, ?_⟩
  all_goals rw [cell_set_other _ hne, cell_set_other _ hne, cell_set_other _ hne]
  · exact h.1
  · exact h.2

theorem s7_same {W W' : World} {lb b8 q xc : Nat} {kd : Int} {p s1 s2 : ByteArray} {xa : Option Addr} {va1 va2 : Bool} (h : W.cell? ⟨lb, 0, none⟩ = some (.int .i64 kd) ∧ W.cell? ⟨lb, 1, none⟩ = some (.string p) ∧ W.cell? ⟨lb, 2, none⟩ = some (.slice xa q xc) ∧ W.cell? ⟨b8, 0, none⟩ = some (.bool va1) ∧ W.cell? ⟨b8, 1, none⟩ = some (.string s1) ∧ W.cell? ⟨b8, 2, none⟩ = some (.bool va2) ∧ W.cell? ⟨b8, 3, none⟩ = some (.string s2)) (h1 : W'.heap[lb]? = W.heap[lb]?) (h2 : W'.heap[b8]? = W.heap[b8]?) : W'.cell? ⟨lb, 0, none⟩ = some (.int .i64 kd) ∧ W'.cell? ⟨lb, 1, none⟩ = some (.string p) ∧ W'.cell? ⟨lb, 2, none⟩ = some (.slice xa q xc) ∧ W'.cell? ⟨b8, 0, none⟩ = some (.bool va1) ∧ W'.cell? ⟨b8, 1, none⟩ = some (.string s1) ∧ W'.cell? ⟨b8, 2, none⟩ = some (.bool va2) ∧ W'.cell? ⟨b8, 3, none⟩ = some (.string s2) := by
  unfold World.cell? at *
  rw [h1, h2]
  exact h
theorem s7_keep {W W' : World} {lb b8 q xc : Nat} {kd : Int} {p s1 s2 : ByteArray} {xa : Option Addr} {va1 va2 : Bool} (h : W.cell? ⟨lb, 0, none⟩ = some (.int .i64 kd) ∧ W.cell? ⟨lb, 1, none⟩ = some (.string p) ∧ W.cell? ⟨lb, 2, none⟩ = some (.slice xa q xc) ∧ W.cell? ⟨b8, 0, none⟩ = some (.bool va1) ∧ W.cell? ⟨b8, 1, none⟩ = some (.string s1) ∧ W.cell? ⟨b8, 2, none⟩ = some (.bool va2) ∧ W.cell? ⟨b8, 3, none⟩ = some (.string s2)) (hs : Stay W W') : W'.cell? ⟨lb, 0, none⟩ = some (.int .i64 kd) ∧ W'.cell? ⟨lb, 1, none⟩ = some (.string p) ∧ W'.cell? ⟨lb, 2, none⟩ = some (.slice xa q xc) ∧ W'.cell? ⟨b8, 0, none⟩ = some (.bool va1) ∧ W'.cell? ⟨b8, 1, none⟩ = some (.string s1) ∧ W'.cell? ⟨b8, 2, none⟩ = some (.bool va2) ∧ W'.cell? ⟨b8, 3, none⟩ = some (.string s2) :=
  ⟨hs.cell h.1, hs.cell h.2.1, hs.cell h.2.2.1, hs.cell h.2.2.2.1, hs.cell h.2.2.2.2.1, hs.cell h.2.2.2.2.2.1, hs.cell h.2.2.2.2.2.2⟩

set_option maxRecDepth 100000 in
set_option maxHeartbeats 4000000 in
theorem renamed_any (x : Ru) (m : ByteArray) (w : World) (hx : x.fit w) (hs : x.shortBy m.size) (hm : m.size ≤ 1048576) : Calls Try.prog 28 #[x.v, .string m] w fun e w' => ∃ y : Ru, e = .returned y.v ∧ y.renOf m x ∧ y.In w' ∧ Stay w w' := by
  obtain ⟨w0, hw0⟩ : ∃ w0, w0 = (w.alloc (.cells #[.string x.head.pred, .slice x.head.a x.head.ts.length x.head.cap, .slice x.a x.body.length x.cap] 27)).alloc (.cells #[.string ⟨#[]⟩, .slice none 0 0, .slice none 0 0] 27) := ⟨_, rfl⟩
  have s0 : Stay w w0 := by rw [hw0]; exact (Stay.new w _).trans (Stay.new _ _)
  have hz0 : w0.heap.size = w.heap.size + 2 := by rw [hw0]; simp
  have HC : Hid (∀ V, Stay w0 V → V.cell? ⟨w.heap.size, 0, none⟩ = some (.string x.head.pred) ∧ V.cell? ⟨w.heap.size, 1, none⟩ = some (.slice x.head.a x.head.ts.length x.head.cap) ∧ V.cell? ⟨w.heap.size, 2, none⟩ = some (.slice x.a x.body.length x.cap)) := fun V hV => by
    subst hw0
    exact ⟨hV.cell (by simp), hV.cell (by simp), hV.cell (by simp)⟩
  have HK : Hid (w0.heap.size = w.heap.size + 2 ∧ w0.heap[w.heap.size + 1]? = some (.cells #[.string ⟨#[]⟩, .slice none 0 0, .slice none 0 0] 27 (0, 0))) := by
    refine ⟨hz0, ?_⟩
    have h := heap_new (w.alloc (.cells #[.string x.head.pred, .slice x.head.a x.head.ts.length x.head.cap, .slice x.a x.body.length x.cap] 27)) (.cells #[.string ⟨#[]⟩, .slice none 0 0, .slice none 0 0] 27)
    rw [World.size_alloc] at h
    rw [hw0]; exact h
  have hmp : ∀ V, Stay w0 V → Calls Try.prog 52 #[.slice x.head.a x.head.ts.length x.head.cap, .string m] V fun e W1 => ∃ a1 c1, e = .returned (.slice a1 x.head.ts.length c1) ∧ OwnR 51 2 encTm V.heap.size W1 (.slice a1 x.head.ts.length c1) (x.head.ts.map (Tm.ren m)) ∧ Stay V W1 := fun V hV => by
    refine (mapped_any x.head.ts x.head.a x.head.b x.head.off x.head.cap m V (TmsS.recs (TmsS.stay hx.ins.1 (s0.trans hV))) hx.small.1 hx.shorts.1 hm).mono fun e W1 ⟨a1, c1, he, hO, hs⟩ => ?_
    rw [List.length_map] at he hO
    exact ⟨a1, c1, he, hO, hs⟩
  have HX : Hid (x.fit w ∧ Stay w w0 ∧ m.size ≤ 1048576 ∧ x.shortBy m.size) := ⟨hx, s0, hm, hs⟩
  obtain ⟨R, hR⟩ : ∃ R : Ending → World → Prop, R = fun e w' => ∃ y : Ru, e = .returned y.v ∧ y.renOf m x ∧ y.In w' ∧ Stay w w' := ⟨_, rfl⟩
  rw [← hR]
  have HR : Hid (R = fun e w' => ∃ y : Ru, e = .returned y.v ∧ y.renOf m x ∧ y.In w' ∧ Stay w w') := hR
  clear hx hR hs hm s0 hz0
  dsimp only [Ru.v, At.sl] at *
  obtain ⟨hl, hhl⟩ : ∃ hl, hl = x.head.ts.length := ⟨_, rfl⟩
  have HHL : Hid (hl = x.head.ts.length) := hhl
  rw [← hhl] at hmp hw0 HC ⊢
  clear hhl
  go_enter Try.func28, Try.ntmps28
  go_wp2_with fail
  rw [← hw0]
  clear hw0
  go_cut [5] from 9 (fun v5 W => ∃ (b : Nat) (hd : At), v5 = .pointer (some ⟨b, 0, none⟩) ∧ hd.pred = x.head.pred ∧ hd.ts = x.head.ts.map (Tm.ren m) ∧ RnI w0 x m b hd 0 (.slice none 0 0) [] W)
  case first =>
    obtain ⟨c0, c1, -⟩ := HC.out w0.drew (Stay.drew w0)
    have hS : w0.drew.cell? ⟨w.heap.size, 0, none⟩ = some (.string x.head.pred) ∧ w0.drew.cell? ⟨w.heap.size, 0 + 1, none⟩ = some (.slice x.head.a hl x.head.cap) := ⟨c0, c1⟩
    clear c0 c1
    have hne0 : w.heap.size ≠ w0.heap.size := by have := HK.out.1; omega
    go_region_held3 (fun W => W.cell? ⟨w.heap.size, 0, none⟩ = some (.string x.head.pred) ∧ W.cell? ⟨w.heap.size, 0 + 1, none⟩ = some (.slice x.head.a hl x.head.cap))
      (first | assumption | (exact two_keep (by assumption) (by assumption)) | (exact two_keep (by assumption) (Stay.new _ _)) | (exact two_store (by assumption) (by assumption)) | (exact two_keep (Hid.out (by assumption)) (Stay.new _ _)))
      (first
        | (go_at_call 52; refine (hmp w0.drew (Stay.drew _)).mono ?_; rintro e W1 ⟨a1, k1, rfl, hO1, s1⟩; have HS1 : Hid (W1.cell? ⟨w.heap.size, 0, none⟩ = some (.string x.head.pred) ∧ W1.cell? ⟨w.heap.size, 0 + 1, none⟩ = some (.slice x.head.a hl x.head.cap)) := ⟨(HC.out W1 ((Stay.drew w0).trans s1)).1, (HC.out W1 ((Stay.drew w0).trans s1)).2.1⟩)
        | (go_at_call 52; refine (hmp (w0.drew.alloc (.cells #[.string ⟨#[]⟩, .slice none 0 0, .slice none 0 0] 27)) ((Stay.drew _).alloc _)).mono ?_; rintro e W1 ⟨a1, k1, rfl, hO1, s1⟩; have hbx := box_new s1; obtain ⟨m0, m1, m2, f0, f1, f2⟩ := box_cells hbx))
    · have HF : Hid (∃ hd : At, hd.pred = x.head.pred ∧ hd.ts = x.head.ts.map (Tm.ren m) ∧ RnI w0 x m W1.heap.size hd 0 (.slice none 0 0) [] (W1.alloc (.cells #[.string x.head.pred, .slice a1 hl k1, .slice none 0 0] 27))) := RnI.startA s1 HHL.out hO1
      go_wp2_with fail
      go_meet
      case rel => obtain ⟨hd, q⟩ := HF.out; exact ⟨_, hd, rfl, q⟩
    · have HF : Hid (∃ hd : At, hd.pred = x.head.pred ∧ hd.ts = x.head.ts.map (Tm.ren m) ∧ RnI w0 x m w0.heap.size hd 0 (.slice none 0 0) [] (((W1.setCell ⟨w0.heap.size, 0, none⟩ (.string x.head.pred)).setCell ⟨w0.heap.size, 1, none⟩ (.slice a1 hl k1)).setCell ⟨w0.heap.size, 2, none⟩ (.slice none 0 0))) := RnI.startB s1 HHL.out hO1
      go_wp2_with fail
      go_meet
      case rel => obtain ⟨hd, q⟩ := HF.out; exact ⟨_, hd, rfl, q⟩
  case rest =>
    obtain ⟨b, hd, rfl, hpred, hts, hI⟩ := hcut
    have HI : Hid (RnI w0 x m b hd 0 (.slice none 0 0) [] wc ∧ hd.pred = x.head.pred ∧ hd.ts = x.head.ts.map (Tm.ren m)) := ⟨hI, hpred, hts⟩
    have HB : Hid (RecS 7 encLi w0 x.a x.b x.off x.body ∧ x.body.length ≤ 1048576) := ⟨(HX.out.1.ins.2.recs).stay HX.out.2.1, HX.out.1.small.2.1⟩
    have hnn : x.body.length ≤ 1048576 := HB.out.2
    clear hI hpred hts hmp
    go_wp2_with fail
    go_loopw [6] (fun u wr => ∃ (k : Nat) (v : Value) (cs : List Li), k ≤ x.body.length ∧ u = .int .i64 (k : Int) ∧ RnI w0 x m b hd k v cs wr) (fun u _ => x.body.length - (intOf u).toNat)
    case atStart => exact ⟨0, _, _, Nat.zero_le _, rfl, HI.out.1⟩
    case round =>
      obtain ⟨k, v, cs, hk, rfl, hI⟩ := hrel
      have HJ : Hid (RnI w0 x m b hd k v cs wr) := hI
      obtain ⟨-, -, r2⟩ := HC.out wr hI.bel
      by_cases hlt : k < x.body.length
      · have hki : (k : Int) < (x.body.length : Int) := by omega
        have hxa := HB.out.1.1 (by omega)
        rw [hxa] at r2
        have cc : ∀ q u, (encLi x.body[k])[q]? = some u → wr.cell? ⟨x.b, x.off + k * 7 + q, none⟩ = some u := fun q u hq => hI.bel.cell (HB.out.1.2 k hlt q u hq)
        have d0 := cc 0 _ rfl
        have d1 := cc 1 _ rfl
        have d2 := cc 2 _ rfl
        have d3 := cc 3 _ rfl
        have d4 := cc 4 _ rfl
        have d5 := cc 5 _ rfl
        have d6 := cc 6 _ rfl
        rw [Nat.add_zero] at d0
        have hlf : x.body[k].fit w := HX.out.1.lit (List.getElem_mem hlt)
        have hsb := HX.out.2.2.2.2 _ (List.getElem_mem hlt)
        obtain ⟨l, hle⟩ : ∃ l, l = x.body[k] := ⟨_, rfl⟩
        rw [← hle] at d0 d1 d2 d3 d4 d5 d6 hlf hsb
        have HLE : Hid (l = x.body[k]) := hle
        clear hle cc hxa
        obtain ⟨kd, ⟨p, xa, xb, xo, xc, xs⟩, ⟨va1, t1⟩, ⟨va2, t2⟩⟩ := l
        dsimp only [encLi, At.sl] at d0 d1 d2 d3 d4 d5 d6 hsb
        obtain ⟨q, hq⟩ : ∃ q, q = xs.length := ⟨_, rfl⟩
        rw [← hq] at d2
        obtain ⟨s1, hs1⟩ : ∃ s1, s1 = (Tm.ren m ⟨va1, t1⟩).text := ⟨_, rfl⟩
        obtain ⟨s2, hs2⟩ : ∃ s2, s2 = (Tm.ren m ⟨va2, t2⟩).text := ⟨_, rfl⟩
        obtain ⟨lb, hlb⟩ : ∃ lb, lb = wr.heap.size := ⟨_, rfl⟩
        obtain ⟨V, hV⟩ : ∃ V, V = (wr.alloc (.cells #[.int .i64 kd, .string p, .slice xa q xc, .bool va1, .string t1, .bool va2, .string t2] 53)).alloc (.cells #[.bool va1, .string t1, .bool va2, .string t2] 51) := ⟨_, rfl⟩
        have sV : Stay wr V := by rw [hV]; exact (Stay.new _ _).alloc _
        have zV : V.heap.size = lb + 2 := by rw [hV, hlb]; simp
        have hmB : Calls Try.prog 52 #[.slice (some ⟨wr.heap.size + 1, 0, none⟩) 2 2, .string m] V fun e W1 => ∃ b8 c8, e = .returned (.slice (some ⟨b8, 0, none⟩) 2 c8) ∧ Stay V W1 ∧ V.heap.size ≤ b8 ∧ b8 < W1.heap.size ∧ (W1.cell? ⟨lb, 0, none⟩ = some (.int .i64 kd) ∧ W1.cell? ⟨lb, 1, none⟩ = some (.string p) ∧ W1.cell? ⟨lb, 2, none⟩ = some (.slice xa q xc) ∧ W1.cell? ⟨b8, 0, none⟩ = some (.bool va1) ∧ W1.cell? ⟨b8, 1, none⟩ = some (.string s1) ∧ W1.cell? ⟨b8, 2, none⟩ = some (.bool va2) ∧ W1.cell? ⟨b8, 3, none⟩ = some (.string s2)) := by
          have hr := recs_lit encTmOk (wr.alloc (.cells #[.int .i64 kd, .string p, .slice xa q xc, .bool va1, .string t1, .bool va2, .string t2] 53)) [⟨va1, t1⟩, ⟨va2, t2⟩] 51
          rw [World.size_alloc] at hr
          have hcV : V.heap[lb]? = some (.cells #[.int .i64 kd, .string p, .slice xa q xc, .bool va1, .string t1, .bool va2, .string t2] 53 (0, 0)) := by
            rw [hV, hlb]
            exact (Below.heap_alloc _ _ _ (by rw [World.size_alloc]; omega)).trans (heap_new _ _)
          rw [show cellsR encTm [(⟨va1, t1⟩ : Tm), ⟨va2, t2⟩] = [.bool va1, .string t1, .bool va2, .string t2] from rfl] at hr
          rw [← hV] at hr
          refine (mapped_any [⟨va1, t1⟩, ⟨va2, t2⟩] _ _ 0 2 m V hr (by simp) (fun t ht => ?_) HX.out.2.2.1).mono fun e W1 ⟨a8, c8, he, hO, hs⟩ => ?_
          · rcases List.mem_cons.1 ht with rfl | ht
            · exact hlf.shorts.2.1
            · rw [List.mem_singleton] at ht; subst ht; exact hlf.shorts.2.2
          · obtain ⟨a', b8, c', hq', hR, -, hpos, -⟩ := hO.form encTmOk
            simp only [Value.slice.injEq] at hq'
            obtain ⟨rfl, -, rfl⟩ := hq'
            obtain rfl := hpos (by simp)
            obtain ⟨g1, g2⟩ := hO.lt b8 rfl
            have e0 := hR.2 0 (by simp) 0 _ rfl
            have e1 := hR.2 0 (by simp) 1 _ rfl
            have e2 := hR.2 1 (by simp) 0 _ rfl
            have e3 := hR.2 1 (by simp) 1 _ rfl
            have hcW := (hs.block lb (by omega)).trans hcV
            refine ⟨b8, c8, he, hs, g1, g2, ?_, ?_, ?_, ?_, ?_, ?_, ?_⟩
            · rw [Lib.cell_of_heap hcW]; rfl
            · rw [Lib.cell_of_heap hcW]; rfl
            · rw [Lib.cell_of_heap hcW]; rfl
            · exact e0
            · rw [hs1]; exact e1
            · exact e2
            · rw [hs2]; exact e3
        have HM9 : Hid (∀ W1 b8, Stay V W1 → V.heap.size ≤ b8 → b8 < W1.heap.size → (W1.cell? ⟨lb, 0, none⟩ = some (.int .i64 kd) ∧ W1.cell? ⟨lb, 1, none⟩ = some (.string p) ∧ W1.cell? ⟨lb, 2, none⟩ = some (.slice xa q xc) ∧ W1.cell? ⟨b8, 0, none⟩ = some (.bool va1) ∧ W1.cell? ⟨b8, 1, none⟩ = some (.string s1) ∧ W1.cell? ⟨b8, 2, none⟩ = some (.bool va2) ∧ W1.cell? ⟨b8, 3, none⟩ = some (.string s2)) → Calls Try.prog 52 #[.slice xa q xc, .string m] W1 fun e W2 => ∃ a9 c9 a1 n1 c1 w3, e = .returned (.slice a9 q c9) ∧ Stay W1 W2 ∧ W2.cell? ⟨b, 2, none⟩ = some v ∧
            (Builtin.append_ #[25, 25] 25 #[v, .slice (some ⟨W2.heap.size, 0, none⟩) 1 1]).run Try.prog (W2.alloc (.cells #[.int .i64 kd, .string p, .slice a9 q c9, .bool va1, .string s1, .bool va2, .string s2] 53)) = .ok (.slice a1 n1 c1) w3 ∧ w3.cell? ⟨b, 2, none⟩ = some v ∧ w3.frozen? ⟨b, 2, none⟩ = false ∧
            Hid (∃ cs', RnI w0 x m b hd (k + 1) (.slice a1 n1 c1) cs' (w3.setCell ⟨b, 2, none⟩ (.slice a1 n1 c1))) ∧ Hid (W2.cell? ⟨lb, 0, none⟩ = some (.int .i64 kd) ∧ W2.cell? ⟨lb, 1, none⟩ = some (.string p) ∧ W2.cell? ⟨lb, 2, none⟩ = some (.slice xa q xc) ∧ W2.cell? ⟨b8, 0, none⟩ = some (.bool va1) ∧ W2.cell? ⟨b8, 1, none⟩ = some (.string s1) ∧ W2.cell? ⟨b8, 2, none⟩ = some (.bool va2) ∧ W2.cell? ⟨b8, 3, none⟩ = some (.string s2)) ∧ Hid (w3.cell? ⟨lb, 0, none⟩ = some (.int .i64 kd) ∧ w3.cell? ⟨lb, 1, none⟩ = some (.string p) ∧ w3.cell? ⟨lb, 2, none⟩ = some (.slice xa q xc) ∧ w3.cell? ⟨b8, 0, none⟩ = some (.bool va1) ∧ w3.cell? ⟨b8, 1, none⟩ = some (.string s1) ∧ w3.cell? ⟨b8, 2, none⟩ = some (.bool va2) ∧ w3.cell? ⟨b8, 3, none⟩ = some (.string s2)) ∧ Hid ((w3.setCell ⟨b, 2, none⟩ (.slice a1 n1 c1)).cell? ⟨lb, 0, none⟩ = some (.int .i64 kd) ∧ (w3.setCell ⟨b, 2, none⟩ (.slice a1 n1 c1)).cell? ⟨lb, 1, none⟩ = some (.string p) ∧ (w3.setCell ⟨b, 2, none⟩ (.slice a1 n1 c1)).cell? ⟨lb, 2, none⟩ = some (.slice xa q xc) ∧ (w3.setCell ⟨b, 2, none⟩ (.slice a1 n1 c1)).cell? ⟨b8, 0, none⟩ = some (.bool va1) ∧ (w3.setCell ⟨b, 2, none⟩ (.slice a1 n1 c1)).cell? ⟨b8, 1, none⟩ = some (.string s1) ∧ (w3.setCell ⟨b, 2, none⟩ (.slice a1 n1 c1)).cell? ⟨b8, 2, none⟩ = some (.bool va2) ∧ (w3.setCell ⟨b, 2, none⟩ (.slice a1 n1 c1)).cell? ⟨b8, 3, none⟩ = some (.string s2))) := fun W1 b8 hs8 hb8 hb9 h7 => by
          have hI1 := hI.stay (sV.trans hs8)
          have hbl := hI.lt
          have hvl : ∀ j, v.ownBlock = some j → j < wr.heap.size := fun j hj => (hI.own.lt j hj).2
          have hz1 := hs8.size
          subst hq
          refine (mapped_any xs xa xb xo xc m W1 (TmsS.recs (TmsS.stay hlf.ins ((HX.out.2.1.trans hI.bel).trans (sV.trans hs8)))) hlf.few hlf.shorts.1 HX.out.2.2.1).mono fun e W2 ⟨a9, c9, he, hO, hs9⟩ => ?_
          have hz2 := hs9.size
          obtain ⟨bk, hA⟩ := AtA.new (lo := w0.heap.size) hO p v b (fun j hj => by have := hvl j hj; omega) (by omega) (by have := hI.bel.size; omega)
          obtain ⟨a1, n1, c1, w3, hr, g1, g2, g3, hkp⟩ := (hI1.stay hs9).push hlt (by omega) ⟨kd, ⟨p, a9, bk, 0, c9, xs.map (Tm.ren m)⟩, Tm.ren m ⟨va1, t1⟩, Tm.ren m ⟨va2, t2⟩⟩ (by rw [← HLE.out]; exact ⟨rfl, rfl, rfl, rfl⟩) hA 25
          have hA7 := s7_keep h7 hs9
          have hB7 := s7_same hA7 (hkp lb (by omega) (fun e => by have := hvl _ e; omega)) (hkp b8 (by omega) (fun e => by have := hvl _ e; omega))
          rw [List.length_map] at he
          dsimp only [encLi, At.sl] at hr
          rw [List.length_map, ← hs1, ← hs2] at hr
          exact ⟨a9, c9, a1, n1, c1, w3, he, hs9, (hI1.stay hs9).cells.2.2, hr, g1, g2, ⟨_, g3⟩, hA7, hB7, s7_same hB7 (Below.heap_setCell _ _ _ _ (fun e => by have e : lb = b := e; omega)) (Below.heap_setCell _ _ _ _ (fun e => by have e : b8 = b := e; omega))⟩
        have HVV : Hid (Stay wr V) := sV
        clear hI hs1 hs2 hq hlf hsb sV zV
        subst hlb
        go_wp2_with (go_at_call 52; rw [← hV]; refine hmB.mono ?_; rintro e W1 ⟨b8, c8, rfl, h8s, h8a, h8b, h8c⟩)
        have hv1 : W1.drew.cell? ⟨b, 2, none⟩ = some v := (HJ.out.stay (HVV.out.trans h8s)).cells.2.2
        have hm9 := HM9.out W1.drew b8 (h8s.trans (Stay.drew W1)) h8a h8b h8c
        have hS8 : W1.drew.cell? ⟨wr.heap.size, 0, none⟩ = some (.int .i64 kd) ∧ W1.drew.cell? ⟨wr.heap.size, 1, none⟩ = some (.string p) ∧ W1.drew.cell? ⟨wr.heap.size, 2, none⟩ = some (.slice xa q xc) ∧ W1.drew.cell? ⟨b8, 0, none⟩ = some (.bool va1) ∧ W1.drew.cell? ⟨b8, 1, none⟩ = some (.string s1) ∧ W1.drew.cell? ⟨b8, 2, none⟩ = some (.bool va2) ∧ W1.drew.cell? ⟨b8, 3, none⟩ = some (.string s2) := h8c
        clear HM9 h8s h8a h8b h8c hmB d0 d1 d2 d3 d4 d5 d6 r2 hV
        have hS := hS8
        have en1 : ∀ args w, (callFunc 52 args).run Try.prog w = .ok (.enter 52 args) w := enters_of Try.func52 (by kernel_rfl) rfl
        refine region_wpH (S := fun W => W.cell? ⟨wr.heap.size, 0, none⟩ = some (.int .i64 kd) ∧ W.cell? ⟨wr.heap.size, 1, none⟩ = some (.string p) ∧ W.cell? ⟨wr.heap.size, 2, none⟩ = some (.slice xa q xc) ∧ W.cell? ⟨b8, 0, none⟩ = some (.bool va1) ∧ W.cell? ⟨b8, 1, none⟩ = some (.string s1) ∧ W.cell? ⟨b8, 2, none⟩ = some (.bool va2) ∧ W.cell? ⟨b8, 3, none⟩ = some (.string s2)) (by kernel_rfl) ?_
        --@7@
        refine wpAnyH_take (i := 0) (v := .pointer (some ⟨b, 2, none⟩)) rfl (by kernel_rfl) (by kernel_rfl) (by kernel_rfl) (fun _ _ _ h => h) (Or.inl ⟨by rfl, fun W _ => by first | (go_simp; done) | (go_simp; with_reducible rfl)⟩) hS ?_
        refine wpAnyH_take (i := 2) (v := .pointer (some ⟨wr.heap.size, 0, none⟩)) rfl (by kernel_rfl) (by kernel_rfl) (by kernel_rfl) (fun _ _ _ h => h) (Or.inl ⟨by rfl, fun W _ => by first | (go_simp; done) | (go_simp; with_reducible rfl)⟩) hS ?_
        refine wpAnyH_take (i := 3) (v := .int .i64 kd) rfl (by kernel_rfl) (by kernel_rfl) (by kernel_rfl) (fun _ _ _ h => h) (Or.inl ⟨by rfl, fun W hW => by obtain ⟨q0, q1, q2, q3, q4, q5, q6⟩ := hW; first | (go_simp; done) | (go_simp; with_reducible rfl)⟩) hS ?_
        refine wpAnyH_take (i := 4) (v := .pointer (some ⟨wr.heap.size, 1, none⟩)) rfl (by kernel_rfl) (by kernel_rfl) (by kernel_rfl) (fun _ _ _ h => h) (Or.inl ⟨by rfl, fun W _ => by first | (go_simp; done) | (go_simp; with_reducible rfl)⟩) hS ?_
        refine wpAnyH_take (i := 5) (v := .pointer (some ⟨wr.heap.size, 1, none⟩)) rfl (by kernel_rfl) (by kernel_rfl) (by kernel_rfl) (fun _ _ _ h => h) (Or.inl ⟨by rfl, fun W _ => by first | (go_simp; done) | (go_simp; with_reducible rfl)⟩) hS ?_
        refine wpAnyH_take (i := 6) (v := .string p) rfl (by kernel_rfl) (by kernel_rfl) (by kernel_rfl) (fun _ _ _ h => h) (Or.inl ⟨by rfl, fun W hW => by obtain ⟨q0, q1, q2, q3, q4, q5, q6⟩ := hW; first | (go_simp; done) | (go_simp; with_reducible rfl)⟩) hS ?_
        refine wpAnyH_take (i := 7) (v := .pointer (some ⟨wr.heap.size, 1, none⟩)) rfl (by kernel_rfl) (by kernel_rfl) (by kernel_rfl) (fun _ _ _ h => h) (Or.inl ⟨by rfl, fun W _ => by first | (go_simp; done) | (go_simp; with_reducible rfl)⟩) hS ?_
        refine wpAnyH_take (i := 8) (v := .pointer (some ⟨wr.heap.size, 2, none⟩)) rfl (by kernel_rfl) (by kernel_rfl) (by kernel_rfl) (fun _ _ _ h => h) (Or.inl ⟨by rfl, fun W _ => by first | (go_simp; done) | (go_simp; with_reducible rfl)⟩) hS ?_
        refine wpAnyH_take (i := 9) (v := .slice xa q xc) rfl (by kernel_rfl) (by kernel_rfl) (by kernel_rfl) (fun _ _ _ h => h) (Or.inl ⟨by rfl, fun W hW => by obtain ⟨q0, q1, q2, q3, q4, q5, q6⟩ := hW; first | (go_simp; done) | (go_simp; with_reducible rfl)⟩) hS ?_
        refine wpAnyH_take (i := 10) (v := .string m) rfl (by kernel_rfl) (by kernel_rfl) (by kernel_rfl) (fun _ _ _ h => h) (Or.inl ⟨by rfl, fun W _ => by first | (go_simp; done) | (go_simp; with_reducible rfl)⟩) hS ?_
        refine wpAnyH_take (i := 13) (v := .slice (some ⟨b8, 0, none⟩) 2 c8) rfl (by kernel_rfl) (by kernel_rfl) (by kernel_rfl) (fun _ _ _ h => h) (Or.inl ⟨by rfl, fun W _ => by first | (go_simp; done) | (go_simp; with_reducible rfl)⟩) hS ?_
        refine wpAnyH_take (i := 14) (v := .pointer (some ⟨b8, 0, none⟩)) rfl (by kernel_rfl) (by kernel_rfl) (by kernel_rfl) (fun _ _ _ h => h) (Or.inl ⟨by rfl, fun W _ => by first | (go_simp; done) | (go_simp; with_reducible rfl)⟩) hS ?_
        refine wpAnyH_take (i := 15) (v := .agg #[.bool va1, .string s1]) rfl (by kernel_rfl) (by kernel_rfl) (by kernel_rfl) (fun _ _ _ h => h) (Or.inl ⟨by rfl, fun W hW => by obtain ⟨q0, q1, q2, q3, q4, q5, q6⟩ := hW; first | (go_simp; done) | (go_simp; with_reducible rfl)⟩) hS ?_
        refine wpAnyH_take (i := 16) (v := .slice (some ⟨b8, 0, none⟩) 2 c8) rfl (by kernel_rfl) (by kernel_rfl) (by kernel_rfl) (fun _ _ _ h => h) (Or.inl ⟨by rfl, fun W _ => by first | (go_simp; done) | (go_simp; with_reducible rfl)⟩) hS ?_
        refine wpAnyH_take (i := 17) (v := .pointer (some ⟨b8, 2, none⟩)) rfl (by kernel_rfl) (by kernel_rfl) (by kernel_rfl) (fun _ _ _ h => h) (Or.inl ⟨by rfl, fun W _ => by first | (go_simp; done) | (go_simp; with_reducible rfl)⟩) hS ?_
        refine wpAnyH_take (i := 18) (v := .agg #[.bool va2, .string s2]) rfl (by kernel_rfl) (by kernel_rfl) (by kernel_rfl) (fun _ _ _ h => h) (Or.inl ⟨by rfl, fun W hW => by obtain ⟨q0, q1, q2, q3, q4, q5, q6⟩ := hW; first | (go_simp; done) | (go_simp; with_reducible rfl)⟩) hS ?_
        refine wpAnyH_ready (rs := [1, 11]) (by kernel_rfl) (by simp) (AllReadyH.cons (o := { dst := some 39, op := Op.load 25 (Operand.tmp 38), type := 25, pos := "outright.go:38", after := #[{ on := 0, ground := Ground.data }], guard := none }) rfl (fun K hK => ?_) (AllReadyH.cons (o := { dst := some 49, op := Op.call { callee := Callee.value (Operand.func 52), args := #[Operand.tmp 47, Operand.tmp 48], argTypes := #[22, 9] }, type := 22, pos := "outright.go:38", after := #[{ on := 9, ground := Ground.data }, { on := 10, ground := Ground.data }], guard := none }) rfl (fun K hK => ?_) AllReadyH.nil))
        · go_simp
          refine hK.out _ _ hS (fun hS => ?_)
          clear hK K
          refine wpAnyH_ready (rs := [11]) (by kernel_rfl) (by simp) (AllReadyH.cons (o := { dst := some 49, op := Op.call { callee := Callee.value (Operand.func 52), args := #[Operand.tmp 47, Operand.tmp 48], argTypes := #[22, 9] }, type := 22, pos := "outright.go:38", after := #[{ on := 9, ground := Ground.data }, { on := 10, ground := Ground.data }], guard := none }) rfl (fun K hK => ?_) AllReadyH.nil)
          · refine step_goG (by rfl) 52 _ _ rfl (args := #[.slice xa q xc, .string m]) (by first | rfl | (simp [Act.eval]; done) | simp [Act.eval, Act.put]) en1 ?_
            refine hm9.mono ?_
            rintro e W2 ⟨a9, c9, a1, n1, c1, w3, rfl, s9, hv2, hap, g1, g2, HN, HS2, HS3, HS4⟩
            have hv3 : (W2.alloc (.cells #[.int .i64 kd, .string p, .slice a9 q c9, .bool va1, .string s1, .bool va2, .string s2] 53)).cell? ⟨b, 2, none⟩ = some v := (Stay.new W2 _).cell hv2
            refine ⟨_, rfl, ?_⟩
            (try go_simp)
            refine hK.out _ _ HS2.out (fun hS => ?_)
            clear hK K
            refine wpAnyH_take (i := 12) (v := .agg #[.string p, .slice a9 q c9]) rfl (by kernel_rfl) (by kernel_rfl) (by kernel_rfl) (fun _ _ _ h => h) (Or.inl ⟨by rfl, fun W _ => by first | (go_simp; done) | (go_simp; with_reducible rfl)⟩) hS ?_
            refine wpAnyH_take (i := 19) (v := .agg #[.int .i64 kd, .string p, .slice a9 q c9, .bool va1, .string s1, .bool va2, .string s2]) rfl (by kernel_rfl) (by kernel_rfl) (by kernel_rfl) (fun _ _ _ h => h) (Or.inl ⟨by rfl, fun W _ => by first | (go_simp; done) | (go_simp; with_reducible rfl)⟩) hS ?_
            refine wpAnyH_ready (rs := [20]) (by kernel_rfl) (by simp) (AllReadyH.cons (o := { dst := some 58, op := Op.buildSlice 25 1 #[(0, Operand.tmp 57)], type := 25, pos := "outright.go:38", after := #[{ on := 19, ground := Ground.data }], guard := none }) rfl (fun K hK => ?_) AllReadyH.nil)
            · go_simp
              refine hK.out _ _ (s7_keep HS2.out (Stay.new _ _)) (fun hS => ?_)
              clear hK K
              refine wpAnyH_ready (rs := [21]) (by kernel_rfl) (by simp) (AllReadyH.cons (o := { dst := some 59, op := Op.call { callee := Callee.builtin Builtin.append, args := #[Operand.tmp 39, Operand.tmp 58], argTypes := #[25, 25] }, type := 25, pos := "outright.go:38", after := #[{ on := 1, ground := Ground.data }, { on := 20, ground := Ground.data }, { on := 11, ground := Ground.chain }], guard := none }) rfl (fun K hK => ?_) AllReadyH.nil)
              · refine step_append_run rfl _ _ _ _ rfl (by first | rfl | simp [Act.eval]) (by first | rfl | simp [Act.eval]) hap ?_
                (try go_simp)
                refine hK.out _ _ HS3.out (fun hS => ?_)
                clear hK K
                refine wpAnyH_take (i := 22) (v := .pointer (some ⟨b, 2, none⟩)) rfl (by kernel_rfl) (by kernel_rfl) (by kernel_rfl) (fun _ _ _ h => h) (Or.inl ⟨by rfl, fun W _ => by first | (go_simp; done) | (go_simp; with_reducible rfl)⟩) hS ?_
                refine wpAnyH_ready (rs := [23]) (by kernel_rfl) (by simp) (AllReadyH.cons (o := { dst := none, op := Op.store 25 (Operand.tmp 60) (Operand.tmp 59), type := 0, pos := "outright.go:38", after := #[{ on := 22, ground := Ground.data }, { on := 21, ground := Ground.data }, { on := 21, ground := Ground.chain }, { on := 0, ground := Ground.phase }, { on := 1, ground := Ground.phase }, { on := 2, ground := Ground.phase }, { on := 3, ground := Ground.phase }, { on := 4, ground := Ground.phase }, { on := 5, ground := Ground.phase }, { on := 6, ground := Ground.phase }, { on := 7, ground := Ground.phase }, { on := 8, ground := Ground.phase }, { on := 9, ground := Ground.phase }, { on := 10, ground := Ground.phase }, { on := 11, ground := Ground.phase }, { on := 12, ground := Ground.phase }, { on := 13, ground := Ground.phase }, { on := 14, ground := Ground.phase }, { on := 15, ground := Ground.phase }, { on := 16, ground := Ground.phase }, { on := 17, ground := Ground.phase }, { on := 18, ground := Ground.phase }, { on := 19, ground := Ground.phase }, { on := 20, ground := Ground.phase }, { on := 21, ground := Ground.phase }], guard := none }) rfl (fun K hK => ?_) AllReadyH.nil)
                · go_simp
                  refine hK.out _ _ HS4.out (fun hS => ?_)
                  clear hK K
                  refine wpAnyH_done (by kernel_rfl) ?_ _
                  unfold normQ
                  clear hap hm9
                  go_wp2_with fail
                  go_roundw
                  case rel => obtain ⟨cs', hq⟩ := HN.out; exact ⟨k + 1, _, cs', by omega, by simp, hq⟩
                  case measure => simp [intOf]; omega
        · refine step_goG (by rfl) 52 _ _ rfl (args := #[.slice xa q xc, .string m]) (by first | rfl | (simp [Act.eval]; done) | simp [Act.eval, Act.put]) en1 ?_
          refine hm9.mono ?_
          rintro e W2 ⟨a9, c9, a1, n1, c1, w3, rfl, s9, hv2, hap, g1, g2, HN, HS2, HS3, HS4⟩
          have hv3 : (W2.alloc (.cells #[.int .i64 kd, .string p, .slice a9 q c9, .bool va1, .string s1, .bool va2, .string s2] 53)).cell? ⟨b, 2, none⟩ = some v := (Stay.new W2 _).cell hv2
          refine ⟨_, rfl, ?_⟩
          (try go_simp)
          refine hK.out _ _ HS2.out (fun hS => ?_)
          clear hK K
          refine wpAnyH_take (i := 12) (v := .agg #[.string p, .slice a9 q c9]) rfl (by kernel_rfl) (by kernel_rfl) (by kernel_rfl) (fun _ _ _ h => h) (Or.inl ⟨by rfl, fun W _ => by first | (go_simp; done) | (go_simp; with_reducible rfl)⟩) hS ?_
          refine wpAnyH_take (i := 19) (v := .agg #[.int .i64 kd, .string p, .slice a9 q c9, .bool va1, .string s1, .bool va2, .string s2]) rfl (by kernel_rfl) (by kernel_rfl) (by kernel_rfl) (fun _ _ _ h => h) (Or.inl ⟨by rfl, fun W _ => by first | (go_simp; done) | (go_simp; with_reducible rfl)⟩) hS ?_
          refine wpAnyH_ready (rs := [1, 20]) (by kernel_rfl) (by simp) (AllReadyH.cons (o := { dst := some 39, op := Op.load 25 (Operand.tmp 38), type := 25, pos := "outright.go:38", after := #[{ on := 0, ground := Ground.data }], guard := none }) rfl (fun K hK => ?_) (AllReadyH.cons (o := { dst := some 58, op := Op.buildSlice 25 1 #[(0, Operand.tmp 57)], type := 25, pos := "outright.go:38", after := #[{ on := 19, ground := Ground.data }], guard := none }) rfl (fun K hK => ?_) AllReadyH.nil))
          · go_simp
            refine hK.out _ _ hS (fun hS => ?_)
            clear hK K
            refine wpAnyH_ready (rs := [20]) (by kernel_rfl) (by simp) (AllReadyH.cons (o := { dst := some 58, op := Op.buildSlice 25 1 #[(0, Operand.tmp 57)], type := 25, pos := "outright.go:38", after := #[{ on := 19, ground := Ground.data }], guard := none }) rfl (fun K hK => ?_) AllReadyH.nil)
            · go_simp
              refine hK.out _ _ (s7_keep HS2.out (Stay.new _ _)) (fun hS => ?_)
              clear hK K
              refine wpAnyH_ready (rs := [21]) (by kernel_rfl) (by simp) (AllReadyH.cons (o := { dst := some 59, op := Op.call { callee := Callee.builtin Builtin.append, args := #[Operand.tmp 39, Operand.tmp 58], argTypes := #[25, 25] }, type := 25, pos := "outright.go:38", after := #[{ on := 1, ground := Ground.data }, { on := 20, ground := Ground.data }, { on := 11, ground := Ground.chain }], guard := none }) rfl (fun K hK => ?_) AllReadyH.nil)
              · refine step_append_run rfl _ _ _ _ rfl (by first | rfl | simp [Act.eval]) (by first | rfl | simp [Act.eval]) hap ?_
                (try go_simp)
                refine hK.out _ _ HS3.out (fun hS => ?_)
                clear hK K
                refine wpAnyH_take (i := 22) (v := .pointer (some ⟨b, 2, none⟩)) rfl (by kernel_rfl) (by kernel_rfl) (by kernel_rfl) (fun _ _ _ h => h) (Or.inl ⟨by rfl, fun W _ => by first | (go_simp; done) | (go_simp; with_reducible rfl)⟩) hS ?_
                refine wpAnyH_ready (rs := [23]) (by kernel_rfl) (by simp) (AllReadyH.cons (o := { dst := none, op := Op.store 25 (Operand.tmp 60) (Operand.tmp 59), type := 0, pos := "outright.go:38", after := #[{ on := 22, ground := Ground.data }, { on := 21, ground := Ground.data }, { on := 21, ground := Ground.chain }, { on := 0, ground := Ground.phase }, { on := 1, ground := Ground.phase }, { on := 2, ground := Ground.phase }, { on := 3, ground := Ground.phase }, { on := 4, ground := Ground.phase }, { on := 5, ground := Ground.phase }, { on := 6, ground := Ground.phase }, { on := 7, ground := Ground.phase }, { on := 8, ground := Ground.phase }, { on := 9, ground := Ground.phase }, { on := 10, ground := Ground.phase }, { on := 11, ground := Ground.phase }, { on := 12, ground := Ground.phase }, { on := 13, ground := Ground.phase }, { on := 14, ground := Ground.phase }, { on := 15, ground := Ground.phase }, { on := 16, ground := Ground.phase }, { on := 17, ground := Ground.phase }, { on := 18, ground := Ground.phase }, { on := 19, ground := Ground.phase }, { on := 20, ground := Ground.phase }, { on := 21, ground := Ground.phase }], guard := none }) rfl (fun K hK => ?_) AllReadyH.nil)
                · go_simp
                  refine hK.out _ _ HS4.out (fun hS => ?_)
                  clear hK K
                  refine wpAnyH_done (by kernel_rfl) ?_ _
                  unfold normQ
                  clear hap hm9
                  go_wp2_with fail
                  go_roundw
                  case rel => obtain ⟨cs', hq⟩ := HN.out; exact ⟨k + 1, _, cs', by omega, by simp, hq⟩
                  case measure => simp [intOf]; omega
          · go_simp
            refine hK.out _ _ (s7_keep HS2.out (Stay.new _ _)) (fun hS => ?_)
            clear hK K
            refine wpAnyH_ready (rs := [1]) (by kernel_rfl) (by simp) (AllReadyH.cons (o := { dst := some 39, op := Op.load 25 (Operand.tmp 38), type := 25, pos := "outright.go:38", after := #[{ on := 0, ground := Ground.data }], guard := none }) rfl (fun K hK => ?_) AllReadyH.nil)
            · go_simp
              refine hK.out _ _ hS (fun hS => ?_)
              clear hK K
              refine wpAnyH_ready (rs := [21]) (by kernel_rfl) (by simp) (AllReadyH.cons (o := { dst := some 59, op := Op.call { callee := Callee.builtin Builtin.append, args := #[Operand.tmp 39, Operand.tmp 58], argTypes := #[25, 25] }, type := 25, pos := "outright.go:38", after := #[{ on := 1, ground := Ground.data }, { on := 20, ground := Ground.data }, { on := 11, ground := Ground.chain }], guard := none }) rfl (fun K hK => ?_) AllReadyH.nil)
              · refine step_append_run rfl _ _ _ _ rfl (by first | rfl | simp [Act.eval]) (by first | rfl | simp [Act.eval]) hap ?_
                (try go_simp)
                refine hK.out _ _ HS3.out (fun hS => ?_)
                clear hK K
                refine wpAnyH_take (i := 22) (v := .pointer (some ⟨b, 2, none⟩)) rfl (by kernel_rfl) (by kernel_rfl) (by kernel_rfl) (fun _ _ _ h => h) (Or.inl ⟨by rfl, fun W _ => by first | (go_simp; done) | (go_simp; with_reducible rfl)⟩) hS ?_
                refine wpAnyH_ready (rs := [23]) (by kernel_rfl) (by simp) (AllReadyH.cons (o := { dst := none, op := Op.store 25 (Operand.tmp 60) (Operand.tmp 59), type := 0, pos := "outright.go:38", after := #[{ on := 22, ground := Ground.data }, { on := 21, ground := Ground.data }, { on := 21, ground := Ground.chain }, { on := 0, ground := Ground.phase }, { on := 1, ground := Ground.phase }, { on := 2, ground := Ground.phase }, { on := 3, ground := Ground.phase }, { on := 4, ground := Ground.phase }, { on := 5, ground := Ground.phase }, { on := 6, ground := Ground.phase }, { on := 7, ground := Ground.phase }, { on := 8, ground := Ground.phase }, { on := 9, ground := Ground.phase }, { on := 10, ground := Ground.phase }, { on := 11, ground := Ground.phase }, { on := 12, ground := Ground.phase }, { on := 13, ground := Ground.phase }, { on := 14, ground := Ground.phase }, { on := 15, ground := Ground.phase }, { on := 16, ground := Ground.phase }, { on := 17, ground := Ground.phase }, { on := 18, ground := Ground.phase }, { on := 19, ground := Ground.phase }, { on := 20, ground := Ground.phase }, { on := 21, ground := Ground.phase }], guard := none }) rfl (fun K hK => ?_) AllReadyH.nil)
                · go_simp
                  refine hK.out _ _ HS4.out (fun hS => ?_)
                  clear hK K
                  refine wpAnyH_done (by kernel_rfl) ?_ _
                  unfold normQ
                  clear hap hm9
                  go_wp2_with fail
                  go_roundw
                  case rel => obtain ⟨cs', hq⟩ := HN.out; exact ⟨k + 1, _, cs', by omega, by simp, hq⟩
                  case measure => simp [intOf]; omega
        --@8@
      · obtain rfl : k = x.body.length := by omega
        have hge : ¬ (x.body.length : Int) < (x.body.length : Int) := by omega
        have hbx : wr.heap[w.heap.size + 1]? = some (.cells #[.string ⟨#[]⟩, .slice none 0 0, .slice none 0 0] 27 (0, 0)) := (hI.bel.block _ (by have := HK.out.1; omega)).trans HK.out.2
        obtain ⟨m0, m1, m2, f0, f1, f2⟩ := box_cells hbx
        obtain ⟨e0, e1, e2⟩ := hI.cells
        clear hI hbx
        obtain ⟨va, bv, vc, rfl, hRv, -, hpos, -⟩ := HJ.out.own.form encLiOk
        have HP : Hid (RecS 7 encLi wr va bv 0 cs ∧ (0 < cs.length → w0.heap.size ≤ bv)) := ⟨hRv, fun h0 => (HJ.out.own.lt bv (by rw [hpos h0]; rfl)).1⟩
        clear hRv hpos
        go_wp2_with fail
        refine bodyPost_ret (v := .agg #[.string hd.pred, .slice hd.a hd.ts.length hd.cap, .slice va cs.length vc]) (by simp [results, Try.results28, go_sem, m0, m1, m2]) rfl ?_
        rw [HR.out]
        have hz := HK.out.1
        have same : ∀ g, w0.heap.size ≤ g → (((wr.setCell ⟨w.heap.size + 1, 0, none⟩ (.string hd.pred)).setCell ⟨w.heap.size + 1, 1, none⟩ (.slice hd.a hd.ts.length hd.cap)).setCell ⟨w.heap.size + 1, 2, none⟩ (.slice va cs.length vc)).heap[g]? = wr.heap[g]? := fun g hg => by
          have hne : g ≠ w.heap.size + 1 := by omega
          exact ((Below.heap_setCell _ _ _ _ (fun e => hne e)).trans (Below.heap_setCell _ _ _ _ (fun e => hne e))).trans (Below.heap_setCell _ _ _ _ (fun e => hne e))
        refine ⟨⟨hd, va, bv, 0, vc, cs⟩, rfl, ⟨HI.out.2.2, ?_⟩, ⟨?_, ?_⟩, ?_⟩
        · have := HJ.out.ren
          rwa [List.take_of_length_le (Nat.le_refl _)] at this
        · exact (HJ.out.head.1.same fun h0 => same _ (HJ.out.head.2 h0).2.2.2).tms
        · exact (HP.out.1.same fun h0 => same _ (HP.out.2 h0)).lis fun y hy => ((HJ.out.ats y hy).1.same fun h0 => same _ ((HJ.out.ats y hy).2 h0).2.2.2).tms
        · exact (((HX.out.2.1.trans HJ.out.bel).setCell (p := ⟨w.heap.size + 1, 0, none⟩) (Nat.le_succ _) _).setCell (p := ⟨w.heap.size + 1, 1, none⟩) (Nat.le_succ _) _).setCell (p := ⟨w.heap.size + 1, 2, none⟩) (Nat.le_succ _) _
end Go.Proofs.Ytnmeljenldadfaa
