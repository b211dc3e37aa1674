/- LexBehind's walk. -/
import Derived.Test.YtbnlhddgpkfllabDoorYN
namespace Go.Proofs.YtbnlhddgpkfllabDoor
open Go.RowKit Go.Maps

set_option maxRecDepth 100000 in
set_option maxHeartbeats 4000000 in
theorem lexBehind_walk (s t : ByteArray) (w : World) (hT : Tabs w) (hs : s.size + t.size ≤ 1048576) : Calls Tryd.prog 3 #[.string s, .string t] w fun e w' => e = .returned (.bool true) ∧ Stay w w' := by
  have hkn := known_any w hT
  obtain ⟨L1, rfl⟩ : ∃ L : List UInt8, s = ⟨L.toArray⟩ := ⟨s.data.toList, by simp⟩
  obtain ⟨L2, rfl⟩ : ∃ L : List UInt8, t = ⟨L.toArray⟩ := ⟨t.data.toList, by simp⟩
  have hlen1 : (⟨L1.toArray⟩ : ByteArray).size = L1.length := by show L1.toArray.size = _; simp
  have hlen2 : (⟨L2.toArray⟩ : ByteArray).size = L2.length := by show L2.toArray.size = _; simp
  rw [hlen1, hlen2] at hs
  have t1 := fun W (hW : Tabs W) => Tokens_any ⟨L1.toArray⟩ (by omega) W hW
  have t2 := fun W (hW : Tabs W) => Tokens_any ⟨L2.toArray⟩ (by omega) W hW
  have t3 := fun W (hW : Tabs W) => Tokens_any ⟨(L1 ++ 10 :: L2).toArray⟩ (by show (L1 ++ 10 :: L2).toArray.size ≤ _; simp; omega) W hW
  have hadd : (⟨L1.toArray⟩ ++ ⟨#[10]⟩ ++ ⟨L2.toArray⟩ : ByteArray) = ⟨(L1 ++ 10 :: L2).toArray⟩ := by
    apply ByteArray.ext
    rw [ByteArray.data_append, ByteArray.data_append]
    simp
  have n1 := lex_len L1
  have n2 := lex_len L2
  have n3 := lex_far L2
  have n4 := lex_in L2
  dsimp only at t1 t2 t3
  have HT : Hid (Tabs w) := hT
  by_cases he : (lexT L1).2.2.2 = 0
  · obtain ⟨o3, hlx, hRo⟩ := lex_behind L1 L2 he
    rw [hlx] at t3
    generalize lexT L1 = U at *
    generalize lexT L2 = V at *
    obtain ⟨l1, o1, far1, e1⟩ := U
    obtain ⟨l2, o2, far2, e2⟩ := V
    dsimp only at he t1 t2 t3 hRo n1 n2 n3 n4
    dsimp only [Tok.val, Tok.cells] at t1 t2 t3
    subst he
    rw [← hadd] at t3
    obtain ⟨B, hB⟩ : ∃ B, B = L1.length + 1 := ⟨_, rfl⟩
    rw [← hB] at t3 hRo
    have hby : Go.RowKit.wrap64 ((L1.length : Int) + 1) = (B : Int) := by
      unfold Go.RowKit.wrap64
      omega
    have hs1 : ¬ 9223372036854775807 < L1.length + 1 := by omega
    have hs2 : ¬ 9223372036854775807 < L1.length + 1 + L2.length := by omega
    have HN : Hid (l1.length ≤ L1.length ∧ l2.length ≤ L2.length ∧ far2 ≤ L2.length ∧ L1.length + L2.length ≤ 1048576 ∧ B = L1.length + 1) := ⟨n1, n2, n3, hs, hB⟩
    have HR : Hid (Ro B o3 o2) := hRo
    have HI : Hid ((∀ t ∈ l2, Within L2.length t) ∧ Within L2.length o2) := n4
    clear hlx hRo hadd n1 n2 n3 n4 hs hB hT hlen1 hlen2
    go_enter Tryd.func3, Tryd.ntmps3
    go_wp2_with fail
    refine hkn.mono ?_
    rintro e W0 ⟨rfl, hs0⟩
    have H0 : Hid (Stay w W0) := hs0
    clear hkn hs0
    go_wp2_with fail
    refine (t1 W0 (HT.out.stay H0.out)).mono ?_
    rintro e W1 ⟨v1, rfl, hO1, hs1'⟩
    have H1 : Hid (Stay W0 W1 ∧ OwnK W0.heap.size W1 v1 l1) := ⟨hs1', hO1⟩
    clear t1 hO1 hs1'
    go_wp2_with (first
      | (go_at_call 7; refine (num_any _ _).mono ?_; rintro e w' ⟨rfl, hw'⟩; have hw2 := hw'.symm; subst hw2))
    have hs2' : Stay w (W1.alloc (.cells #[.int .i64 o1.kind, .string ⟨o1.text.toArray⟩, .int .i64 (o1.at_ : Int), .int .i64 (o1.fin : Int)] 26)) := (H0.out.trans H1.out.1).trans (Stay.new _ _)
    refine (t2 _ (HT.out.stay hs2')).mono ?_
    rintro e W2 ⟨v2, rfl, hO2, hs3'⟩
    have H2 : Hid (Stay w W2 ∧ Stay W1 W2 ∧ OwnK (W1.heap.size + 1) W2 v2 l2 ∧ W1.heap.size + 1 ≤ W2.heap.size) := ⟨hs2'.trans hs3', (Stay.new _ _).trans hs3', by rw [World.size_alloc] at hO2; exact hO2, by have := hs3'.size; rw [World.size_alloc] at this; exact this⟩
    clear t2 hO2 hs3' hs2'
    go_wp2_with fail
    have hs4' : Stay w (W2.alloc (.cells #[.int .i64 o2.kind, .string ⟨o2.text.toArray⟩, .int .i64 (o2.at_ : Int), .int .i64 (o2.fin : Int)] 26)) := H2.out.1.trans (Stay.new _ _)
    refine (t3 _ (HT.out.stay hs4')).mono ?_
    rintro e W3 ⟨v3, rfl, hO3, hs5'⟩
    obtain ⟨X, hX⟩ : ∃ X, X = W3.alloc (.cells #[.int .i64 o3.kind, .string ⟨o3.text.toArray⟩, .int .i64 (o3.at_ : Int), .int .i64 (o3.fin : Int)] 26) := ⟨_, rfl⟩
    have x1 := hs5'.size
    rw [World.size_alloc] at x1 hO3
    have x2 : X.heap.size = W3.heap.size + 1 := by rw [hX, World.size_alloc]
    have x3 : Stay W2 X := by rw [hX]; exact ((Stay.new _ _).trans hs5').trans (Stay.new _ _)
    have x4 : Stay (W2.alloc (.cells #[.int .i64 o2.kind, .string ⟨o2.text.toArray⟩, .int .i64 (o2.at_ : Int), .int .i64 (o2.fin : Int)] 26)) X := by rw [hX]; exact hs5'.trans (Stay.new _ _)
    have x5 : X.heap[W2.heap.size]? = some (.cells #[.int .i64 o2.kind, .string ⟨o2.text.toArray⟩, .int .i64 (o2.at_ : Int), .int .i64 (o2.fin : Int)] 26 (0, 0)) := stay_of_new x4
    have x6 : X.heap[W3.heap.size]? = some (.cells #[.int .i64 o3.kind, .string ⟨o3.text.toArray⟩, .int .i64 (o3.at_ : Int), .int .i64 (o3.fin : Int)] 26 (0, 0)) := by rw [hX]; exact heap_new _ _
    have x7 : OwnK (W2.heap.size + 1) X v3 (l1 ++ l2.map (·.move B)) := by rw [hX]; exact hO3.stay (Stay.new _ _)
    have x8 : OwnK (W1.heap.size + 1) X v2 l2 := H2.out.2.2.1.stay x3
    have y7 := World.ownsRow.lt x7
    have y8 := World.ownsRow.lt x8
    have x9 := World.ownsRow.lt H2.out.2.2.1
    obtain ⟨a2, b2, c2, rfl, k2⟩ := x8.form
    obtain ⟨a3, b3, c3, rfl, k3⟩ := x7.form
    have hLB : LB w W0 W1 X X v1 l1 := ⟨(H1.out.2.stay H2.out.2.1).stay x3, fun j hj => .inl (World.ownsRow.lt H1.out.2 j hj).2, fun _ _ _ => rfl, H2.out.1.trans x3, Nat.le_refl _⟩
    have HX : Hid (X = W3.alloc (.cells #[.int .i64 o3.kind, .string ⟨o3.text.toArray⟩, .int .i64 (o3.at_ : Int), .int .i64 (o3.fin : Int)] 26)) := hX
    have hw0 := H0.out.size
    have hw01 := H1.out.1.size
    have hw2 := H2.out.2.2.2
    clear t3 hO3 hs5' hs4' hX x3 x4 x7 x8 x9 H1 H2 H0 HT hs1 hs2
    go_wp2_with fail
    rw [← HX.out]
    obtain ⟨i0, hi, hz0, hz1, hz2⟩ := info_parts infoTok
    have HK : Hid (TkS X a2 b2 l2 ∧ TkS X a3 b3 (l1 ++ l2.map (·.move B))) := ⟨k2, k3⟩
    have HZ : Hid ((∀ k, (Value.slice a2 l2.length c2).ownBlock = some k → W1.heap.size + 1 ≤ k ∧ k < X.heap.size) ∧ (∀ k, (Value.slice a3 (l1 ++ l2.map (·.move B)).length c3).ownBlock = some k → W2.heap.size + 1 ≤ k ∧ k < X.heap.size) ∧ w.heap.size ≤ W0.heap.size ∧ W1.heap.size + 1 ≤ W2.heap.size ∧ W2.heap.size + 1 ≤ W3.heap.size ∧ X.heap.size = W3.heap.size + 1 ∧ W0.heap.size ≤ W1.heap.size) := ⟨y8, y7, hw0, hw2, x1, x2, hw01⟩
    have HL : Hid (LB w W0 W1 X X v1 l1) := hLB
    have H5 : Hid (X.heap[W2.heap.size]? = some (.cells #[.int .i64 o2.kind, .string ⟨o2.text.toArray⟩, .int .i64 (o2.at_ : Int), .int .i64 (o2.fin : Int)] 26 (0, 0)) ∧ X.heap[W3.heap.size]? = some (.cells #[.int .i64 o3.kind, .string ⟨o3.text.toArray⟩, .int .i64 (o3.at_ : Int), .int .i64 (o3.fin : Int)] 26 (0, 0))) := ⟨x5, x6⟩
    have hl2 : l2.length ≤ 1048576 := by have := HN.out; omega
    have hl1 : l1.length ≤ 1048576 := by have := HN.out; omega
    clear k2 k3 y7 y8 hw0 hw01 hw2 x1 x2 hLB x5 x6 HX hby
    go_loopw [5, 18, 19] (fun v i tb wr => ∃ k : Nat, k ≤ l2.length ∧ i = .int .i64 k ∧ LB w W0 W1 X wr v (l1 ++ (l2.take k).map (·.move B))) (fun v i tb _ => l2.length - (intOf i).toNat)
    case atStart => exact ⟨0, Nat.zero_le _, rfl, by simpa using HL.out⟩
    case round =>
      obtain ⟨k, hk, rfl, hrow⟩ := hrel
      by_cases hlt : k < l2.length
      · have hq := HI.out.1 l2[k] (List.getElem_mem hlt)
        have hkb : TkS wr a2 b2 l2 := HK.out.1.keep (fun e => hrow.mid b2 (by have := HZ.out.1 b2 (by rw [e]; rfl); omega) (HZ.out.1 b2 (by rw [e]; rfl)).2)
        obtain rfl := hkb.1 (by omega)
        obtain ⟨p0, p1, p2, p3⟩ := hkb.2 k hlt
        have HT2 : Hid ((l1 ++ (l2.take k).map (·.move B)) ++ [l2[k].move B] = l1 ++ (l2.take (k + 1)).map (·.move B)) := take_move l1 l2 B k hlt
        have hpl : (l1 ++ (l2.take k).map (·.move B)).length ≤ 2097152 := by simp; omega
        generalize l2[k] = x at hq p0 p1 p2 p3 HT2
        generalize l1 ++ (l2.take k).map (·.move B) = pre at hrow HT2 hpl
        obtain ⟨q1, q2, q3, q4⟩ := x
        obtain ⟨A1, hA1⟩ : ∃ A, A = q3 + B := ⟨_, rfl⟩
        obtain ⟨A2, hA2⟩ : ∃ A, A = q4 + B := ⟨_, rfl⟩
        have hm : Tok.move ⟨q1, q2, q3, q4⟩ B = ⟨q1, q2, A1, A2⟩ := by rw [hA1, hA2]; rfl
        rw [hm] at HT2
        have hi1 : (k : Int) < (l2.length : Int) := by omega
        have w1' := wrap_sum q3 L1.length B A1 HN.out.2.2.2.2 hA1 (by have := HN.out.2.2.2.1; have := hq.1; dsimp only at this; omega) (by have := HN.out.2.2.2.1; omega)
        have w2' := wrap_sum q4 L1.length B A2 HN.out.2.2.2.2 hA2 (by have := HN.out.2.2.2.1; have := hq.2; dsimp only at this; omega) (by have := HN.out.2.2.2.1; omega)
        have HROW : Hid (LB w W0 W1 X wr u5 pre) := hrow
        have hbase : W0.heap.size ≤ wr.heap.size := by have := HZ.out.2.2.2.2.2; have := HZ.out.2.2.2; have := hrow.size; omega
        dsimp only at p0 p1 p2 p3
        clear hrow hkb hq hA1 hA2 hm
        go_wp2_with (first
          | (at_builtin; refine wpList_append_own_at _ rfl _ _ 23 rfl W0.heap.size 26 i0 _ 4 40 Tryd.underlying23 hi hz0 hz1 hz2 rfl (by decide) _ _ _ rfl (World.ownsRow.alloc (World.ownsRow.alloc HROW.out.own _) _) ⟨wr.heap.size + 1, 0, none⟩ 1 1 (Tok.row ⟨q1, q2, A1, A2⟩) rfl rfl (by have := new_cells (wr.alloc (.cells #[.int .i64 q1, .string ⟨q2.toArray⟩, .int .i64 (A1 : Int), .int .i64 (A2 : Int)] 26)) (Tok.row ⟨q1, q2, A1, A2⟩) 26; rwa [World.size_alloc] at this) (by simp [Tok.row, Value.oneCell']) (by unfold maxLen; omega) (by omega) (by simp only [World.size_alloc]; omega) ?_; intro v' w1 hown' hgrow _ hob; have HB2 : Hid (LB w W0 W1 X w1 v' (l1 ++ (l2.take (k + 1)).map (·.move B))) := (by rw [← HT2.out]; exact HROW.out.step HZ.out.2.2.1 hown' hgrow hob); clear hown' hgrow hob))
        go_roundw
        case rel => exact ⟨k + 1, by omega, by go_num, HB2.out⟩
        case measure => simp [intOf]; omega
      · obtain rfl : k = l2.length := by omega
        rw [List.take_length] at hrow
        have hkk : TkS wr a3 b3 (l1 ++ l2.map (·.move B)) := HK.out.2.keep (fun e => hrow.mid b3 (by have := HZ.out.2.1 b3 (by rw [e]; rfl); have := HZ.out.2.2.2; omega) (HZ.out.2.1 b3 (by rw [e]; rfl)).2)
        have z5 := (hrow.mid W2.heap.size (by have := HZ.out.2.2.2; omega) (by have := HZ.out.2.2.2; omega)).trans H5.out.1
        have z6 := (hrow.mid W3.heap.size (by have := HZ.out.2.2.2; omega) (by have := HZ.out.2.2.2; omega)).trans H5.out.2
        have hblk := hrow.blk
        obtain ⟨a1, b1, c1, rfl, k1⟩ := hrow.own.form
        have hl3 : (l1 ++ l2.map (·.move B)).length = l1.length + l2.length := by simp
        have hfar : Go.RowKit.wrap64 ((far2 : Int) + ((L1.length : Int) + 1)) = (far2 : Int) + (B : Int) := by
          have := wrap_sum far2 L1.length B (far2 + B) HN.out.2.2.2.2 rfl (by have := HN.out; omega) (by have := HN.out; omega)
          rw [this]; omega
        have hg := guardK
        have hst := hrow.st
        clear hrow hi hz0 hz1 hz2
        rcases HR.out with ⟨r1, r2⟩ | ⟨r1, r2⟩
        · subst r1 r2
          dsimp only [tok0] at z5 z6
          obtain ⟨f0, f1, f2, f3, -⟩ := four z5
          have hsm := same_yes wr a1 a3 b1 b3 c1 c3 _ k1 hkk (by rw [hl3]; omega)
          have hn := neqK0 tok0
          dsimp only [tok0] at hn
          rw [hl3] at hsm
          have H7 : Hid (Stay w wr ∧ wr.heap[W2.heap.size]? = _ ∧ wr.heap[W3.heap.size]? = _) := ⟨hst, z5, z6⟩
          clear z5 z6 k1 hkk hst
          go_wp2_with fail
          refine hsm.mono ?_
          rintro e W4 ⟨rfl, hs4⟩
          have lt5 := (Array.getElem?_eq_some_iff.1 H7.out.2.1).1
          have lt6 := (Array.getElem?_eq_some_iff.1 H7.out.2.2).1
          obtain ⟨g0, g1, g2, g3, -⟩ := four ((hs4.block _ lt5).trans H7.out.2.1)
          obtain ⟨j0, j1, j2, j3, -⟩ := four ((hs4.block _ lt6).trans H7.out.2.2)
          have hq := eqlK tok0 tok0
          simp only [tok0, decide_true] at hq
          have HE : Hid (Stay w W4) := H7.out.1.trans hs4
          have hee : (e2 == e2) = true := by simp
          clear hsm hs4 H7 f0 f1 f2 f3
          go_wp2_with fail
          go_ret
          exact ⟨rfl, HE.out⟩
        · obtain ⟨u1, u2, u3, u4⟩ := o2
          subst r2
          have r1' : u1 ≠ 0 := r1
          have hin : Within L2.length ⟨u1, u2, u3, u4⟩ := HI.out.2
          obtain ⟨A1, hA1⟩ : ∃ A, A = u3 + B := ⟨_, rfl⟩
          obtain ⟨A2, hA2⟩ : ∃ A, A = u4 + B := ⟨_, rfl⟩
          have w1' := wrap_sum u3 L1.length B A1 HN.out.2.2.2.2 hA1 (by have := HN.out.2.2.2.1; have := hin.1; dsimp only at this; omega) (by have := HN.out.2.2.2.1; omega)
          have w2' := wrap_sum u4 L1.length B A2 HN.out.2.2.2.2 hA2 (by have := HN.out.2.2.2.1; have := hin.2; dsimp only at this; omega) (by have := HN.out.2.2.2.1; omega)
          dsimp only [Tok.move] at z5 z6
          rw [← hA1, ← hA2] at z6
          obtain ⟨f0, f1, f2, f3, f4, f5, f6, f7⟩ := four z5
          have hn := neqQ ⟨u1, u2, u3, u4⟩ tok0
          rw [decide_eq_true (by intro e; exact r1' (congrArg Tok.kind e))] at hn
          dsimp only [tok0] at hn
          have z7 := set4 z5 (.int .i64 u1) (.string ⟨u2.toArray⟩) (.int .i64 (A1 : Int)) (.int .i64 (A2 : Int))
          obtain ⟨Y, hY⟩ : ∃ Y, Y = (wr.setCell ⟨W2.heap.size, 2, none⟩ (.int .i64 (A1 : Int))).setCell ⟨W2.heap.size, 3, none⟩ (.int .i64 (A2 : Int)) := ⟨_, rfl⟩
          have yb : ∀ k, k ≠ W2.heap.size → Y.heap[k]? = wr.heap[k]? := fun k hk => by
            rw [hY]
            exact (Below.heap_setCell _ _ _ _ hk).trans (Below.heap_setCell _ _ _ _ hk)
          have y5 : Y.heap[W2.heap.size]? = some (.cells #[.int .i64 u1, .string ⟨u2.toArray⟩, .int .i64 (A1 : Int), .int .i64 (A2 : Int)] 26 (0, 0)) := by
            rw [hY]; simp [World.setCell, Array.getElem?_modify, z5]
          have y6 := (yb W3.heap.size (by have := HZ.out.2.2.2; omega)).trans z6
          have yS : Stay w Y := by rw [hY]; exact stay_set (stay_set hst (by have := HZ.out.2.2; show w.heap.size ≤ W2.heap.size; omega) _) (by have := HZ.out.2.2; show w.heap.size ≤ W2.heap.size; omega) _
          have hk1 := k1.keep (w' := Y) (fun e => yb b1 (by have := hblk b1 (by rw [e]; rfl); have := HZ.out.2.2.2; omega))
          have hk3 := hkk.keep (w' := Y) (fun e => yb b3 (by have := HZ.out.2.1 b3 (by rw [e]; rfl); omega))
          have hsm := same_yes Y a1 a3 b1 b3 c1 c3 _ hk1 hk3 (by rw [hl3]; omega)
          rw [hl3] at hsm
          have H7 : Hid (Stay w Y ∧ Y.heap[W2.heap.size]? = _ ∧ Y.heap[W3.heap.size]? = _) := ⟨yS, y5, y6⟩
          have HY : Hid (Y = (wr.setCell ⟨W2.heap.size, 2, none⟩ (.int .i64 (A1 : Int))).setCell ⟨W2.heap.size, 3, none⟩ (.int .i64 (A2 : Int))) := hY
          clear z5 z6 z7 k1 hkk hk1 hk3 hst yb y5 y6 yS hY hblk r1 hin hA1 hA2
          go_wp2_with fail
          rw [← HY.out]
          refine hsm.mono ?_
          rintro e W4 ⟨rfl, hs4⟩
          have lt5 := (Array.getElem?_eq_some_iff.1 H7.out.2.1).1
          have lt6 := (Array.getElem?_eq_some_iff.1 H7.out.2.2).1
          obtain ⟨g0, g1, g2, g3, -⟩ := four ((hs4.block _ lt5).trans H7.out.2.1)
          obtain ⟨j0, j1, j2, j3, -⟩ := four ((hs4.block _ lt6).trans H7.out.2.2)
          have hq := eqlK ⟨u1, u2, A1, A2⟩ ⟨u1, u2, A1, A2⟩
          simp only [decide_true] at hq
          have HE : Hid (Stay w W4) := H7.out.1.trans hs4
          have hee : (e2 == e2) = true := by simp
          clear hsm hs4 H7 HY f0 f1 f2 f3 f4 f5 f6 f7
          go_wp2_with fail
          go_ret
          exact ⟨rfl, HE.out⟩
  · generalize lexT L1 = U at *
    obtain ⟨l1, o1, far1, e1⟩ := U
    dsimp only at he t1
    dsimp only [Tok.val, Tok.cells] at t1
    have z1 : (e1 == 0) = false := by simp [he]
    clear t2 t3 hadd n1 n2 n3 n4 hT
    go_enter Tryd.func3, Tryd.ntmps3
    go_wp2_with fail
    refine hkn.mono ?_
    rintro e W0 ⟨rfl, hs0⟩
    have H0 : Hid (Stay w W0) := hs0
    clear hkn hs0
    go_wp2_with fail
    refine (t1 W0 (HT.out.stay H0.out)).mono ?_
    rintro e W1 ⟨v1, rfl, hO1, hs1'⟩
    have H1 : Hid (Stay w W1) := H0.out.trans hs1'
    clear t1 hO1 hs1'
    go_wp2_with (first
      | (go_at_call 7; refine (num_any _ _).mono ?_; rintro e w' ⟨rfl, hw'⟩; have hw2 := hw'.symm; subst hw2))
    go_ret
    exact ⟨rfl, H1.out.trans (Stay.new _ _)⟩
end Go.Proofs.YtbnlhddgpkfllabDoor
