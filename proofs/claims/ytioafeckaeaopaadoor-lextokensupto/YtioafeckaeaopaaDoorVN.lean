/- LexTokens' walk. -/
import Derived.Test.YtioafeckaeaopaaDoorV4
namespace Go.Proofs.YtioafeckaeaopaaDoor
open Go.RowKit Go.Maps

/-- The mark that is written over. -/
def mk7 : Tok := ⟨-7, [109, 97, 114, 107], 0, 0⟩
set_option maxRecDepth 100000 in
set_option maxHeartbeats 4000000 in
theorem lexTokens_walk (s : ByteArray) (w : World) (hT : Tabs w) (hs : s.size ≤ 1048576) : Calls Tryd.prog 3 #[.string s] w fun e w' => e = .returned (.bool true) ∧ Stay w w' := by
  obtain ⟨i0, hi, hz0, hz1, hz2⟩ := info_parts infoTok
  have hkn := fun W (hW : Tabs W) => known_any W hW
  have t1 := fun W (hW : Tabs W) => Tokens_any s (by omega) W hW
  have rT := fun W => y_Tokens s W hs
  have n1 := lex_len s.data.toList
  rw [show s.data.toList.length = s.size by simp] at n1
  generalize lexT s.data.toList = U at *
  obtain ⟨l, ⟨y1, y2, y3, y4⟩, far, er⟩ := U
  dsimp only [Tok.val, Tok.cells] at *
  have HT : Hid (Tabs w) := hT
  have HN : Hid (l.length ≤ 1048576) := by show l.length ≤ 1048576; omega
  have hgk := guardK
  have hne := neqK0 ⟨y1, y2, y3, y4⟩
  dsimp only at hne
  have z1 : ((far : Int) != (far : Int)) = false := by simp
  have z2 : (er != er) = false := by simp
  clear hT hs n1
  go_enter Tryd.func3, Tryd.ntmps3
  go_wp2_with fail
  refine (t1 w HT.out).mono ?_
  rintro e W1 ⟨va, rfl, hOa, hs1⟩
  have H1 : Hid (Stay w W1 ∧ OwnK w.heap.size W1 va l) := ⟨hs1, hOa⟩
  clear hOa hs1
  go_wp2_with fail
  refine (t1 _ (HT.out.stay (H1.out.1.trans (Stay.new _ _)))).mono ?_
  rintro e W2 ⟨vb, rfl, hOb, hs2⟩
  have H2 : Hid (Stay (W1.alloc (.cells #[.int .i64 y1, .string ⟨y2.toArray⟩, .int .i64 (y3 : Int), .int .i64 (y4 : Int)] 25)) W2 ∧ OwnK (W1.alloc (.cells #[.int .i64 y1, .string ⟨y2.toArray⟩, .int .i64 (y3 : Int), .int .i64 (y4 : Int)] 25)).heap.size W2 vb l) := ⟨hs2, hOb⟩
  clear hOb hs2 t1
  go_wp2_with fail
  refine (rT _).mono ?_
  rintro e W3 ⟨vw, rfl, hOw, hs3⟩
  have H3 : Hid (Stay (W2.alloc (.cells #[.int .i64 y1, .string ⟨y2.toArray⟩, .int .i64 (y3 : Int), .int .i64 (y4 : Int)] 25)) W3 ∧ OwnK (W2.alloc (.cells #[.int .i64 y1, .string ⟨y2.toArray⟩, .int .i64 (y3 : Int), .int .i64 (y4 : Int)] 25)).heap.size W3 vw l) := ⟨hs3, hOw⟩
  clear hOw hs3 rT
  obtain ⟨X3, hX3⟩ : ∃ X3, X3 = W3.alloc (.cells #[.int .i64 y1, .string ⟨y2.toArray⟩, .int .i64 (y3 : Int), .int .i64 (y4 : Int)] 25) := ⟨_, rfl⟩
  have HX3 : Hid (X3 = W3.alloc (.cells #[.int .i64 y1, .string ⟨y2.toArray⟩, .int .i64 (y3 : Int), .int .i64 (y4 : Int)] 25)) := hX3
  have s3 : Stay W3 X3 := by rw [hX3]; exact Stay.new _ _
  have s23 : Stay W2 X3 := ((Stay.new _ _).trans H3.out.1).trans s3
  have s13 : Stay W1 X3 := ((Stay.new _ _).trans H2.out.1).trans s23
  have HST : Hid (Stay w X3 ∧ Stay W1 X3 ∧ Stay W2 X3 ∧ Stay W3 X3) := ⟨H1.out.1.trans s13, s13, s23, s3⟩
  obtain ⟨aa, ba, ca, rfl, ka⟩ := (H1.out.2.stay s13).form
  obtain ⟨ab, bb, cb, rfl, kb⟩ := (H2.out.2.stay s23).form
  obtain ⟨aw, bw, cw, rfl, kw⟩ := (H3.out.2.stay s3).form
  have HKS : Hid (TkS X3 aa ba l ∧ TkS X3 ab bb l ∧ TkS X3 aw bw l) := ⟨ka, kb, kw⟩
  have o1 : X3.heap[W1.heap.size]? = some (.cells #[.int .i64 y1, .string ⟨y2.toArray⟩, .int .i64 (y3 : Int), .int .i64 (y4 : Int)] 25 (0, 0)) := (s23.block _ (by have := H2.out.1.size; simp at this; omega)).trans ((H2.out.1.block W1.heap.size (by simp)).trans (heap_new W1 _))
  have o2 : X3.heap[W2.heap.size]? = some (.cells #[.int .i64 y1, .string ⟨y2.toArray⟩, .int .i64 (y3 : Int), .int .i64 (y4 : Int)] 25 (0, 0)) := (s3.block _ (by have := H3.out.1.size; simp at this; omega)).trans ((H3.out.1.block W2.heap.size (by simp)).trans (heap_new W2 _))
  have o3 : X3.heap[W3.heap.size]? = some (.cells #[.int .i64 y1, .string ⟨y2.toArray⟩, .int .i64 (y3 : Int), .int .i64 (y4 : Int)] 25 (0, 0)) := by rw [hX3]; exact heap_new _ _
  have HO : Hid (X3.heap[W1.heap.size]? = some (.cells #[.int .i64 y1, .string ⟨y2.toArray⟩, .int .i64 (y3 : Int), .int .i64 (y4 : Int)] 25 (0, 0)) ∧ X3.heap[W2.heap.size]? = some (.cells #[.int .i64 y1, .string ⟨y2.toArray⟩, .int .i64 (y3 : Int), .int .i64 (y4 : Int)] 25 (0, 0)) ∧ X3.heap[W3.heap.size]? = some (.cells #[.int .i64 y1, .string ⟨y2.toArray⟩, .int .i64 (y3 : Int), .int .i64 (y4 : Int)] 25 (0, 0))) := ⟨o1, o2, o3⟩
  have sm1 := same_yes X3 aa aw ba bw ca cw l ka kw (by have := HN.out; omega)
  clear s3 s23 s13 ka kb kw o1 o2 o3 hX3
  go_wp2_with fail
  rw [← HX3.out]
  refine sm1.mono ?_
  rintro e W4 ⟨rfl, hs4⟩
  have sm2 := same_yes W4 ab aw bb bw cb cw l (HKS.out.2.1.stay hs4) (HKS.out.2.2.stay hs4) (by have := HN.out; omega)
  have H4 : Hid (Stay X3 W4) := hs4
  clear sm1 hs4
  go_wp2_with fail
  refine sm2.mono ?_
  rintro e W5 ⟨rfl, hs5⟩
  have H5 : Hid (Stay X3 W5) := H4.out.trans hs5
  obtain ⟨c0, c1, c2, c3, -⟩ := four ((H5.out.block _ (Array.getElem?_eq_some_iff.1 HO.out.1).1).trans HO.out.1)
  obtain ⟨d0, d1, d2, d3, -⟩ := four ((H5.out.block _ (Array.getElem?_eq_some_iff.1 HO.out.2.1).1).trans HO.out.2.1)
  obtain ⟨e0, e1, e2, e3, -⟩ := four ((H5.out.block _ (Array.getElem?_eq_some_iff.1 HO.out.2.2).1).trans HO.out.2.2)
  clear sm2 hs5
  go_wp2_with (first
    | (go_at_call 12; refine (num_any _ _).mono ?_; rintro e w' ⟨rfl, hw'⟩; have hw2 := hw'.symm; subst hw2))
  obtain ⟨X, hX⟩ : ∃ X, X = W5.alloc (.cells #[.int .i64 (-7), .string ⟨#[109, 97, 114, 107]⟩, .int .i64 0, .int .i64 0] 25) := ⟨_, rfl⟩
  rw [← hX]
  have sX : Stay X3 X := H5.out.trans (by rw [hX]; exact Stay.new _ _)
  have hmk : X.heap[W5.heap.size]? = some (.cells #[.int .i64 (-7), .string ⟨#[109, 97, 114, 107]⟩, .int .i64 0, .int .i64 0] 25 (0, 0)) := by rw [hX]; exact heap_new _ _
  have hsz : W1.heap.size ≤ X3.heap.size ∧ W1.heap.size ≤ W5.heap.size ∧ W5.heap.size < X.heap.size ∧ X3.heap.size ≤ X.heap.size := by
    have h1 := HST.out.2.1.size
    have h2 := H5.out.size
    have h3 : X.heap.size = W5.heap.size + 1 := by rw [hX]; simp
    omega
  have HL : Hid (LB w w W1 X X (.slice aa l.length ca) l) := by
    refine ⟨OwnK.stay H1.out.2 (HST.out.2.1.trans sX), fun j hj => .inl (World.ownsRow.lt H1.out.2 j hj).2, fun k _ _ => rfl, HST.out.1.trans sX, Nat.le_refl _⟩
  have hrb : ∀ j, (Value.slice ab l.length cb).ownBlock = some j → W1.heap.size ≤ j ∧ j < X.heap.size := fun j hj => by
    have h1 := World.ownsRow.lt H2.out.2 j hj
    have h2 := (HST.out.2.2.1.trans sX).size
    simp at h1
    omega
  have hrw : ∀ j, (Value.slice aw l.length cw).ownBlock = some j → W1.heap.size ≤ j ∧ j < X.heap.size := fun j hj => by
    have h1 := World.ownsRow.lt H3.out.2 j hj
    have h2 := (HST.out.2.2.2.trans sX).size
    have h3 := H2.out.1.size
    simp at h1 h3
    omega
  have HB : Hid (TkS X aa ba l ∧ TkS X ab bb l ∧ TkS X aw bw l ∧ (ab = some ⟨bb, 0, none⟩ → W1.heap.size ≤ bb ∧ bb < X.heap.size) ∧ (aw = some ⟨bw, 0, none⟩ → W1.heap.size ≤ bw ∧ bw < X.heap.size)) :=
    ⟨HKS.out.1.stay sX, HKS.out.2.1.stay sX, HKS.out.2.2.stay sX, fun e => hrb bb (by rw [e]; rfl), fun e => hrw bw (by rw [e]; rfl)⟩
  have HM : Hid (X.heap[W5.heap.size]? = some (.cells #[.int .i64 (-7), .string ⟨#[109, 97, 114, 107]⟩, .int .i64 0, .int .i64 0] 25 (0, 0)) ∧ W1.heap.size ≤ W5.heap.size ∧ W5.heap.size < X.heap.size ∧ Stay w X) := ⟨hmk, hsz.2.1, hsz.2.2.1, HST.out.1.trans sX⟩
  clear H1 H2 H3 HX3 HST HKS HO H4 H5 sX hmk hsz hrb hrw hX hne z1 z2 c0 c1 c2 c3 d0 d1 d2 d3 e0 e1 e2 e3
  go_loopw [16] (fun i wr => ∃ k : Nat, k ≤ l.length ∧ i = .int .i64 k ∧ LB w w W1 X wr (.slice aa l.length ca) (List.replicate k mk7 ++ l.drop k)) (fun i _ => l.length - (intOf i).toNat)
  case atStart => exact ⟨0, Nat.zero_le _, rfl, by simpa using HL.out⟩
  case round =>
    obtain ⟨k, hk, rfl, hLB⟩ := hrel
    by_cases hlt : k < l.length
    · obtain rfl := HB.out.1.1 (by omega)
      have hlen : (List.replicate k mk7 ++ l.drop k).length = l.length := by simp; omega
      have hset := mark_set mk7 l k hlt
      obtain ⟨m0, m1, m2, m3, -⟩ := four ((hLB.mid W5.heap.size HM.out.2.1 HM.out.2.2.1).trans HM.out.1)
      generalize List.replicate k mk7 ++ l.drop k = pre at *
      have hLB' : LB w w W1 X wr (.slice (some ⟨ba, 0, none⟩) pre.length ca) pre := by rw [hlen]; exact hLB
      have hnew := hLB'.set (Nat.le_refl _) k (by omega) mk7
      rw [hset, hlen] at hnew
      have HNEW : Hid (LB w w W1 X _ _ _) := hnew
      obtain ⟨k0, k1, k2, k3⟩ := cellsK_at pre k (by omega)
      have hc := fun j v hj => OwnK.cells (j := j) (v := v) hLB'.own hj
      have p0 := hc _ _ k0
      have p1 := hc _ _ k1
      have p2 := hc _ _ k2
      have p3 := hc _ _ k3
      have f0 := World.ownsRow.frozenAt hLB'.own (k * 4)
      have f1 := World.ownsRow.frozenAt hLB'.own (k * 4 + 1)
      have f2 := World.ownsRow.frozenAt hLB'.own (k * 4 + 2)
      have f3 := World.ownsRow.frozenAt hLB'.own (k * 4 + 3)
      have hki : (k : Int) < (l.length : Int) := by omega
      have hl6 := HN.out
      generalize pre[k] = x at *
      clear hset hLB hLB' hnew hc k0 k1 k2 k3 hlen
      go_wp2
      go_roundw
      case rel => exact ⟨k + 1, by omega, by go_num, HNEW.out⟩
      case measure => simp [intOf]; omega
    · obtain rfl : k = l.length := by omega
      rw [List.drop_length, List.append_nil] at hLB
      have HL2 : Hid (LB w w W1 X wr (.slice aa l.length ca) (List.replicate (l.length + 0) mk7)) := hLB
      clear hLB hk hlt
      go_wp2_with fail
      go_loopw [17, 3] (fun i v wq => ∃ j : Nat, j ≤ 40 ∧ i = .int .i64 j ∧ LB w w W1 X wq v (List.replicate (l.length + j) mk7)) (fun i _ _ => 40 - (intOf i).toNat)
      case atStart => exact ⟨0, Nat.zero_le _, rfl, HL2.out⟩
      case round =>
        obtain ⟨j, hj, rfl, hLB⟩ := hrel
        obtain ⟨m0, m1, m2, m3, -⟩ := four ((hLB.mid W5.heap.size HM.out.2.1 HM.out.2.2.1).trans HM.out.1)
        have hlen : (List.replicate (l.length + j) mk7).length = l.length + j := by simp
        have hl6 := HN.out
        have hbase : w.heap.size ≤ wr.heap.size := hLB.st.size
        by_cases hj40 : j < 40
        · have hji : (j : Int) < 40 := by omega
          have HROW : Hid (LB w w W1 X wr u3 (List.replicate (l.length + j) mk7)) := hLB
          have HRE : Hid (List.replicate (l.length + j) mk7 ++ [mk7] = List.replicate (l.length + (j + 1)) mk7) := by
            show _ = _
            rw [← Nat.add_assoc, List.replicate_succ']
          generalize List.replicate (l.length + j) mk7 = pre at *
          have hpl : pre.length ≤ 2097152 := by omega
          clear hLB hlen
          go_wp2_with (first
            | (at_builtin; refine wpList_append_own_at _ rfl _ _ 22 rfl w.heap.size 25 i0 _ 4 40 Tryd.underlying22 hi hz0 hz1 hz2 rfl (by decide) _ _ _ rfl (World.ownsRow.alloc HROW.out.own _) ⟨wr.heap.size, 0, none⟩ 1 1 (Tok.row mk7) rfl rfl (new_cells wr (Tok.row mk7) 25) (by simp [Tok.row, Value.oneCell', mk7]) (by unfold maxLen; omega) (by omega) (by simp only [World.size_alloc]; omega) ?_; intro v' w1 hown' hgrow _ hob; have HB2 : Hid (LB w w W1 X w1 v' (List.replicate (l.length + (j + 1)) mk7)) := (by rw [← HRE.out]; exact HROW.out.step1 (Nat.le_refl _) hown' hgrow hob); clear hown' hgrow hob))
          go_roundw
          case rel => exact ⟨j + 1, by omega, by go_num, HB2.out⟩
          case measure => simp [intOf]; omega
        · obtain rfl : j = 40 := by omega
          rename World => wq
          obtain ⟨a3, b3, c3, hv, k3⟩ := hLB.own.form
          rw [hlen] at hv
          subst hv
          have HY : Hid (LB w w W1 X wq (.slice a3 (l.length + 40) c3) (List.replicate (l.length + 40) mk7) ∧ TkS wq a3 b3 (List.replicate (l.length + 40) mk7)) := ⟨hLB, k3⟩
          obtain ⟨q, hq⟩ : ∃ q : Nat, q = l.length + 40 := ⟨_, rfl⟩
          rw [← hq] at HY ⊢
          have hn7 := neqK0 mk7
          dsimp only [mk7] at hn7
          have hq2 : q ≤ 1048616 := by omega
          clear hLB k3 hlen hj hj40 HL2 HL m0 m1 m2 m3
          go_wp2_with fail
          go_loopw [18] (fun i wr => ∃ k : Nat, k ≤ q ∧ i = .int .i64 k ∧ ∃ m, wr = wq.drewN m) (fun i _ => q - (intOf i).toNat)
          case atStart => exact ⟨0, Nat.zero_le _, rfl, 0, rfl⟩
          case round =>
            obtain ⟨k, hk, rfl, m, hm⟩ := hrel
            have hst : Stay wq wr := by rw [hm]; exact Stay.drewN _ _
            by_cases hlt : k < q
            · obtain rfl := HY.out.2.1 (by simp; omega)
              obtain ⟨p0, p1, p2, p3⟩ := (HY.out.2.stay hst).2 k (by simpa using hlt)
              rw [List.getElem_replicate] at p0 p1 p2 p3
              dsimp only [mk7] at p0 p1 p2 p3
              obtain ⟨m0, m1, m2, m3, -⟩ := four ((hst.block _ (Array.getElem?_eq_some_iff.1 ((HY.out.1.mid W5.heap.size HM.out.2.1 HM.out.2.2.1).trans HM.out.1)).1).trans ((HY.out.1.mid W5.heap.size HM.out.2.1 HM.out.2.2.1).trans HM.out.1))
              have hki : (k : Int) < (q : Int) := by omega
              have HMM : Hid (wr = wq.drewN m) := hm
              clear hst hm
              go_wp2
              go_quiet (fail)
              go_wp2
              go_roundw
              case rel => exact ⟨k + 1, by omega, by go_num, ⟨_, by rw [HMM.out, World.drewN_drewN]⟩⟩
              case measure => simp [intOf]; omega
            · have hki : ¬ (k : Int) < (q : Int) := by omega
              have kB : TkS wr ab bb l := (HB.out.2.1.keep (fun e => HY.out.1.mid bb (HB.out.2.2.2.1 e).1 (HB.out.2.2.2.1 e).2)).stay hst
              have kW : TkS wr aw bw l := (HB.out.2.2.1.keep (fun e => HY.out.1.mid bw (HB.out.2.2.2.2 e).1 (HB.out.2.2.2.2 e).2)).stay hst
              have sm := same_yes wr ab aw bb bw cb cw l kB kW (by omega)
              have HE : Hid (Stay w wr) := HY.out.1.st.trans hst
              clear kB kW hm hst hlt
              go_wp2_with (first
                | (go_at_call 11; refine sm.mono ?_; rintro e W6 ⟨rfl, hs6⟩; have H6 : Hid (Stay w W6) := HE.out.trans hs6; have kn := hkn W6 (HT.out.stay H6.out); clear hs6)
                | (go_at_call 13; refine kn.mono ?_; rintro e W7 ⟨rfl, hs7⟩; have H7 : Hid (Stay w W7) := H6.out.trans hs7; clear hs7))
              go_ret
              exact ⟨rfl, H7.out⟩
end Go.Proofs.YtioafeckaeaopaaDoor
