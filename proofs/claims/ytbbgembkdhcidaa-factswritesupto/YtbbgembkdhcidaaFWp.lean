/- The document's Set and Relation: the walks. -/
import Derived.Test.YtbbgembkdhcidaaFWo
namespace Go.Proofs.Ytbbgembkdhcidaa
open Go.RowKit Go.Maps

def SetB (w : World) (gs : List (List ByteArray)) (e : Ending) (w' : World) : Prop := ∃ v us, e = .returned v ∧ OwnG w.heap.size w' v us gs ∧ Stay w w'
theorem ahead_pos (xs ys : List ByteArray) : 0 < aheadZ xs ys ↔ 0 < cmpS xs ys := by
  obtain ⟨h1, h2⟩ := ahead_cmp xs ys
  omega

set_option maxRecDepth 100000 in
set_option maxHeartbeats 8000000 in
theorem rSet_any {w : World} {a : Option Addr} {b off c : Nat} {ts : List Tx} (h : TxsS w a b off ts) (hnn : ∀ t ∈ ts, t.a = none → t.c = 0 ∧ t.xs = []) (hm : ∀ t ∈ ts, t.xs.length ≤ 1048576) (hl : ts.length ≤ 1048576) :
    Calls Try.prog 23 #[.slice a ts.length c] w (SetB w (setR (ts.map Tx.xs))) := by
  obtain ⟨n, hn⟩ : ∃ n, n = ts.length := ⟨_, rfl⟩
  have HX : Hid (TxsS w a b off ts ∧ n = ts.length ∧ (∀ t ∈ ts, t.xs.length ≤ 1048576) ∧ ∀ t ∈ ts, t.a = none → t.c = 0 ∧ t.xs = []) := ⟨h, hn, hm, hnn⟩
  rw [← hn]
  rw [← hn] at hl
  clear h hn hm hnn
  go_enter Try.func23, Try.ntmps23
  go_wp2
  go_loopw [3, 4, 5, 6] (fun v i _ _ wr => ∃ k : Nat, k ≤ n ∧ i = .int .i64 (k : Int) ∧ (∃ us, OwnG w.heap.size wr v us (setR ((ts.map Tx.xs).take k))) ∧ Stay w wr) (fun _ i _ _ _ => n - (intOf i).toNat)
  case atStart => exact ⟨0, Nat.zero_le _, rfl, ⟨[], OwnG.nil⟩, Stay.refl _⟩
  case round =>
    obtain ⟨k, hk, rfl, ⟨us, hown⟩, hst⟩ := hrel
    by_cases hlt : k < n
    · have hks : k < ts.length := by rw [← HX.out.2.1]; exact hlt
      obtain rfl := HX.out.1.1 (by omega)
      obtain ⟨hc1, hS1⟩ := (HX.out.1.stay hst).2 k hks
      have hki : (k : Int) < (n : Int) := by omega
      have hki0 : (0 : Int) ≤ (k : Int) := by omega
      have hmt := HX.out.2.2.1 _ (List.getElem_mem hks)
      have hnt := HX.out.2.2.2 _ (List.getElem_mem hks)
      have hset : setR ((ts.map Tx.xs).take (k + 1)) = insR ts[k].xs (setR ((ts.map Tx.xs).take k)) := by
        rw [List.take_succ_eq_append_getElem (by simpa using hks), List.getElem_map, setR_snoc]
      have hris := setR_ris ((ts.map Tx.xs).take k)
      have hlen : (setR ((ts.map Tx.xs).take k)).length ≤ 1048576 := by
        have h1 := setR_len ((ts.map Tx.xs).take k)
        have h2 : ((ts.map Tx.xs).take k).length ≤ k := List.length_take_le _ _
        omega
      have hgm : ∀ g ∈ setR ((ts.map Tx.xs).take k), g.length ≤ 1048576 := fun g hg => by
        have := (setR_mem _ _).1 hg
        obtain ⟨y, hy, rfl⟩ := List.mem_map.1 (List.mem_of_mem_take this)
        exact HX.out.2.2.1 y hy
      have HC : Hid (∀ V, Stay w V → V.cell? ⟨b, off + k, none⟩ = some (.slice ts[k].a ts[k].xs.length ts[k].c) ∧ StrsS V ts[k].a ts[k].b ts[k].o ts[k].xs) := fun V hV => (HX.out.1.stay hV).2 k hks
      unfold Tx.v at hc1
      generalize setR ((ts.map Tx.xs).take k) = gs at *
      obtain ⟨gs2, hgs2⟩ : ∃ gs2, gs2 = setR ((ts.map Tx.xs).take (k + 1)) := ⟨_, rfl⟩
      have HG2 : Hid (gs2 = setR ((ts.map Tx.xs).take (k + 1))) := hgs2
      rw [← hgs2] at hset
      clear hgs2
      generalize ts[k] = t at *
      obtain ⟨ta, tb, to, tc, tx⟩ := t
      unfold Tx.S at hS1
      dsimp only at *
      obtain ⟨va, vb, vc, xs, rfl, hx1, hx2, hx3, hx4, hx5⟩ := hown.txs
      obtain ⟨m, hmm⟩ : ∃ m, m = xs.length := ⟨_, rfl⟩
      have hlm : m ≤ 1048576 := by rw [hmm, ← List.length_map (f := Tx.xs), hx2]; exact hlen
      have hml : us.length = m := by rw [hown.len, ← hx2, List.length_map, hmm]
      have hxm : ∀ y ∈ xs, y.xs.length ≤ 1048576 := fun y hy => hgm _ (by rw [← hx2]; exact List.mem_map.2 ⟨y, hy, rfl⟩)
      rw [← hmm] at hown ⊢
      have HY : Hid (TxsS wr va vb 0 xs ∧ m = xs.length ∧ xs.map Tx.xs = gs ∧ RisS gs ∧ StrsS wr ta tb to tx ∧ gs2 = insR tx gs ∧ OwnG w.heap.size wr (.slice va m vc) us gs ∧ us.length = m ∧ Stay w wr ∧ (ta = none → tc = 0 ∧ tx = []) ∧ (∀ y ∈ xs, y.xs.length ≤ 1048576)) := ⟨hx1, hmm, hx2, hris, hS1, hset, hown, hml, hst, hnt, hxm⟩
      obtain ⟨tn, htn⟩ : ∃ tn, tn = tx.length := ⟨_, rfl⟩
      have HTN : Hid (tn = tx.length) := htn
      rw [← htn] at hc1 hmt HC
      clear hx1 hmm hx2 hx3 hx4 hx5 hris hS1 hset hown hml hst hlen hgm hnt hxm htn hks
      go_wp2_with fail
      go_loopw [5] (fun j wr' => ∃ p : Nat, p ≤ m ∧ j = .int .i64 (p : Int) ∧ (∃ d, wr' = wr.drewN d) ∧ ∀ (i : Nat) g, p ≤ i → gs[i]? = some g → 0 < cmpS g tx) (fun j _ => (intOf j).toNat)
      case atStart => exact ⟨m, Nat.le_refl _, rfl, ⟨0, rfl⟩, fun i g hi hg => by
        have := (List.getElem?_eq_some_iff.1 hg).1
        rw [← HY.out.2.2.1, List.length_map, ← HY.out.2.1] at this
        omega⟩
      case round =>
        rename World => wi
        obtain ⟨p, hp, rfl, hdr, hhi⟩ := hrel
        have HD : Hid (∃ d, wi = wr.drewN d) := hdr
        have hsw : Stay wr wi := by obtain ⟨d, rfl⟩ := hdr; exact Stay.drewN _ _
        clear hdr
        have hc2 := hsw.cell hc1
        have HHI : Hid (∀ (i : Nat) g, p ≤ i → gs[i]? = some g → 0 < cmpS g tx) := hhi
        clear hhi
        by_cases hp0 : 0 < p
        · obtain ⟨q, hpq⟩ : ∃ q, p = q + 1 := ⟨p - 1, by omega⟩
          have hqx : q < xs.length := by rw [← HY.out.2.1]; omega
          obtain rfl := HY.out.1.1 (by omega)
          obtain ⟨hc0, hS0⟩ := (HY.out.1.stay hsw).2 q hqx
          rw [Nat.zero_add] at hc0
          unfold Tx.v at hc0
          have hgq : gs[q]? = some xs[q].xs := by rw [← HY.out.2.2.1, List.getElem?_map, List.getElem?_eq_getElem hqx]; rfl
          have hah := fun V (hV : Stay wi V) => ahead_any V xs[q].a ta xs[q].b xs[q].o tb to xs[q].c tc xs[q].xs tx (StrsS.stay hS0 hV) ((HY.out.2.2.2.2.1.stay hsw).stay hV) (by have := HY.out.2.2.2.2.2.2.2.2.2.2 _ (List.getElem_mem hqx); unfold maxLen; omega) (by rw [← HTN.out]; unfold maxLen; omega)
          have hA := ahead_cmp xs[q].xs tx
          simp only [← HTN.out] at hah
          have hj1 : (p : Int) - 1 = (q : Int) := by omega
          have hj2 : (q : Int) < (m : Int) := by omega
          have hj3 : (0 : Int) ≤ (q : Int) := by omega
          have hp0i : (0 : Int) < (p : Int) := by omega
          have hp0t : decide (0 < p) = true := decide_eq_true hp0
          have hp0u : decide ((0 : Int) < (p : Int)) = true := decide_eq_true hp0i
          have HQ : Hid (gs[q]? = some xs[q].xs ∧ p = q + 1 ∧ RisS gs) := ⟨hgq, hpq, HY.out.2.2.2.1⟩
          clear hgq hpq hS0
          generalize xs[q] = tq at *
          generalize aheadZ tq.xs tx = Z at *
          generalize tq.xs.length = nq0 at *
          by_cases hZ : 0 < Z
          · have hZ2 : decide ((0 : Int) < Z) = true := decide_eq_true hZ
            have HN : Hid (∀ (i : Nat) g, q ≤ i → gs[i]? = some g → 0 < cmpS g tx) := fun i g hi hg => by
              by_cases e : i = q
              · subst e
                rw [HQ.out.1] at hg
                cases hg
                omega
              · exact HHI.out i g (by have := HQ.out.2.1; omega) hg
            clear hA
            go_wp2_with fail
            go_quiet ((first
              | (go_at_call 41; exact Calls.quiet_of (hah _ (Stay.drewN _ _)))))
            go_wp2
            go_roundw
            case rel => exact ⟨q, by have := HQ.out.2.1; omega, by first | rfl | go_num | simp, drew_on HD.out nq, HN.out⟩
            case measure => have := HQ.out.2.1; simp [intOf]; omega
          · have hZ2 : decide ((0 : Int) < Z) = false := decide_eq_false hZ
            by_cases hZ0 : Z = 0
            · have hZb : (Z == 0) = true := by simp [hZ0]
              have HF : Hid (gs2 = gs) := by
                show gs2 = gs
                rw [HY.out.2.2.2.2.2.1]
                refine ins_same HQ.out.2.2 ?_
                have e := cmpS_eq (hA.2.1 hZ0)
                rw [← e]
                exact List.mem_of_getElem? HQ.out.1
              clear hA hZ0
              go_wp2_with fail
              go_quiet ((first
                | (go_at_call 41; exact Calls.quiet_of (hah _ (Stay.drewN _ _)))))
              go_wp2_with fail
              have hah2 := fun V (hV : Stay (wi.drewN nq) V) => hah V ((Stay.drewN _ _).trans hV)
              have HD2 : Hid (∃ d, wi.drewN nq = wr.drewN d) := drew_on HD.out nq
              have hc3 : (wi.drewN nq).cell? _ = _ := hc2
              have hc4 : (wi.drewN nq).cell? _ = _ := hc0
              clear hah
              generalize wi.drewN nq = wi2 at *
              go_quiet ((first
                | (go_at_call 41; exact Calls.quiet_of (hah2 _ (Stay.drewN _ _)))))
              have HS8 : Hid (Stay wr (wi2.drewN nq)) := by
                show Stay _ _
                obtain ⟨d, hd⟩ := drew_on HD2.out nq
                rw [hd]; exact Stay.drewN _ _
              go_wp2
              go_roundw
              case rel => exact ⟨k + 1, by omega, by first | rfl | go_num | simp, ⟨us, by rw [← HG2.out, HF.out]; exact HY.out.2.2.2.2.2.2.1.stay HS8.out⟩, HY.out.2.2.2.2.2.2.2.2.1.trans HS8.out⟩
              case measure => simp [intOf]; omega
            · have hZb : (Z == 0) = false := by simp [hZ0]
              have HLO : Hid (∀ (i : Nat) g, i + 1 = p → gs[i]? = some g → cmpS g tx < 0) := fun i g hi hg => by
                have : i = q := by have := HQ.out.2.1; omega
                subst this
                rw [HQ.out.1] at hg
                cases hg
                omega
              clear hA hZ0
              go_wp2_with fail
              go_quiet ((first
                | (go_at_call 41; exact Calls.quiet_of (hah _ (Stay.drewN _ _)))))
              go_wp2_with fail
              have hah2 := fun V (hV : Stay (wi.drewN nq) V) => hah V ((Stay.drewN _ _).trans hV)
              have HD2 : Hid (∃ d, wi.drewN nq = wr.drewN d) := drew_on HD.out nq
              have hc3 : (wi.drewN nq).cell? _ = _ := hc2
              have hc4 : (wi.drewN nq).cell? _ = _ := hc0
              clear hah
              generalize wi.drewN nq = wi2 at *
              go_quiet ((first
                | (go_at_call 41; exact Calls.quiet_of (hah2 _ (Stay.drewN _ _)))))
              have HS8 : Hid (Stay wr (wi2.drewN nq)) := by
                show Stay _ _
                obtain ⟨d, hd⟩ := drew_on HD2.out nq
                rw [hd]; exact Stay.drewN _ _
              clear hah2 hc3 hc4 hc2 hc0 hsw HD
              have hgl : gs.length = m := by rw [← HY.out.2.2.1, List.length_map, ← HY.out.2.1]
              generalize wi2.drewN nq = W8 at *
              obtain ⟨G, c9, V9, hap9, hShf, hT9⟩ := (HY.out.2.2.2.2.2.2.1.stay HS8.out).gap (by rw [HY.out.2.2.2.2.2.2.2.1]; omega) (HY.out.2.2.2.2.2.2.2.2.1.trans HS8.out).size
              rw [HY.out.2.2.2.2.2.2.2.1] at hap9 hShf
              have HZ : Hid (Shf w.heap.size V9 (.slice (some ⟨G, 0, none⟩) (m + 1) c9) us gs m (.slice none 0 0) ∧ Stay w V9) := ⟨hShf, hT9.stay (HY.out.2.2.2.2.2.2.2.2.1.trans HS8.out) (fun i hi e => by have := (HY.out.2.2.2.2.2.2.1.lt i (.inl e)).1; omega)⟩
              clear hShf hT9
              go_wp2_with (first
                | (at_builtin; refine wpList_append_run rfl _ _ 22 22 rfl _ _ rfl rfl hap9 ?_; clear hap9))
              go_loopw [6] (fun i wr' => ∃ (q : Nat) (x : Value), p ≤ q ∧ q ≤ m ∧ i = .int .i64 (q : Int) ∧ Shf w.heap.size wr' (.slice (some ⟨G, 0, none⟩) (m + 1) c9) us gs q x ∧ Stay w wr') (fun i _ => (intOf i).toNat)
              case atStart => exact ⟨m, _, hp, Nat.le_refl _, by first | rfl | go_num | simp, HZ.out.1, HZ.out.2⟩
              case round =>
                rename World => wj
                obtain ⟨q, x, hq1, hq2, rfl, hF, hsj⟩ := hrel
                have hqm : (q : Int) < ((m + 1 : Nat) : Int) := by omega
                have hq0 : (0 : Int) ≤ (q : Int) := by omega
                by_cases hlt3 : p < q
                · obtain ⟨r, hqr⟩ : ∃ r, q = r + 1 := ⟨q - 1, by omega⟩
                  have hru : r < us.length := by rw [HY.out.2.2.2.2.2.2.2.1]; omega
                  obtain ⟨d1, d2, ⟨y, d3⟩, hF', hT'⟩ := hF.move' hqr hru
                  obtain ⟨ea, em, ec, he⟩ := hF.slice hru
                  rw [he] at d1 hF' hT'
                  have hr1 : (q : Int) - 1 = (r : Int) := by omega
                  have hr2 : (r : Int) < ((m + 1 : Nat) : Int) := by omega
                  have hr3 : (0 : Int) ≤ (r : Int) := by omega
                  have hr4 : (p : Int) < (q : Int) := by omega
                  have HR : Hid (Shf w.heap.size (wj.setCell ⟨G, q, none⟩ (.slice ea em ec)) (.slice (some ⟨G, 0, none⟩) (m + 1) c9) us gs r (.slice ea em ec) ∧ Stay w (wj.setCell ⟨G, q, none⟩ (.slice ea em ec)) ∧ q = r + 1) := ⟨hF', hT'.stay hsj (fun i hi e => by have := hF.base_le; omega), hqr⟩
                  clear hF hF' hT' hsj hqr he hru
                  go_wp2
                  go_roundw
                  case rel => exact ⟨r, _, by have := HR.out.2.2; omega, by have := HR.out.2.2; omega, by first | rfl | go_num | simp, HR.out.1, HR.out.2.1⟩
                  case measure => have := HR.out.2.2; simp [intOf]; omega
                · have hqp : q = p := by omega
                  obtain ⟨hcj, hSj⟩ := HC.out wj hsj
                  obtain ⟨u1, V1, hap1, ho1, hg1, _, _⟩ := (OwnS.nil (base := wj.heap.size) (w := wj)).add 39 hSj HY.out.2.2.2.2.2.2.2.2.2.1 (by rw [List.length_nil, Nat.zero_add, ← HTN.out]; omega) (Nat.le_refl _)
                  rw [List.nil_append] at ho1
                  have hs1 : Stay wj V1 := (Turn.of_grown hg1).stay (Stay.refl _) (fun i _ e => by simp [Value.ownBlock] at e)
                  rw [hqp] at hF
                  obtain ⟨f1, ⟨y, f2⟩, f3, f4⟩ := hF.put hs1 ho1 hsj.size
                  obtain ⟨ua, un, uc, rfl⟩ := own_one ho1
                  rw [← HTN.out] at hap1
                  have hlen9 : p ≤ gs.length := by rw [hgl]; exact hp
                  have hgs2 : gs2 = gs.take p ++ tx :: gs.drop p := HY.out.2.2.2.2.2.1.trans (ins_at HY.out.2.2.2.1 hlen9 HLO.out HHI.out)
                  rw [← hgs2] at f3
                  have HF : Hid ((∃ us', OwnG w.heap.size (V1.setCell ⟨G, p, none⟩ (.slice ua un uc)) (.slice (some ⟨G, 0, none⟩) (m + 1) c9) us' (setR ((ts.map Tx.xs).take (k + 1)))) ∧ Stay w (V1.setCell ⟨G, p, none⟩ (.slice ua un uc))) := ⟨⟨_, by rw [← HG2.out]; exact f3⟩, f4.stay (hsj.trans hs1) (fun i hi e => by have := hF.base_le; omega)⟩
                  have hr4 : ¬ (p : Int) < (q : Int) := by omega
                  have hpm : (p : Int) < ((m + 1 : Nat) : Int) := by omega
                  have hp00 : (0 : Int) ≤ (p : Int) := by omega
                  clear hF hSj ho1 hg1 hs1 f3 f4 hgs2 hlen9 hqp
                  go_wp2_with (first
                    | (at_builtin; refine wpList_append_run rfl _ _ 39 39 rfl _ _ rfl rfl hap1 ?_; clear hap1))
                  go_roundw
                  case rel => exact ⟨k + 1, by omega, by simp, HF.out.1, HF.out.2⟩
                  case measure => simp [intOf]; omega
        · have HLO : Hid (∀ (i : Nat) g, i + 1 = p → gs[i]? = some g → cmpS g tx < 0) := fun i g hi hg => by omega
          have hp0i : ¬ (0 : Int) < (p : Int) := by omega
          have hp0t : decide (0 < p) = false := decide_eq_false hp0
          have hp0u : decide ((0 : Int) < (p : Int)) = false := decide_eq_false hp0i
          go_wp2_with fail
          go_quiet (fail)
          go_wp2_with fail
          have HD2 : Hid (∃ d, wi.drewN nq = wr.drewN d) := drew_on HD.out nq
          generalize wi.drewN nq = wi2 at *
          go_quiet (fail)
          have HS8 : Hid (Stay wr (wi2.drewN nq)) := by
            show Stay _ _
            obtain ⟨d, hd⟩ := drew_on HD2.out nq
            rw [hd]; exact Stay.drewN _ _
          clear hc2 hsw HD
          have hgl : gs.length = m := by rw [← HY.out.2.2.1, List.length_map, ← HY.out.2.1]
          generalize wi2.drewN nq = W8 at *
          obtain ⟨G, c9, V9, hap9, hShf, hT9⟩ := (HY.out.2.2.2.2.2.2.1.stay HS8.out).gap (by rw [HY.out.2.2.2.2.2.2.2.1]; omega) (HY.out.2.2.2.2.2.2.2.2.1.trans HS8.out).size
          rw [HY.out.2.2.2.2.2.2.2.1] at hap9 hShf
          have HZ : Hid (Shf w.heap.size V9 (.slice (some ⟨G, 0, none⟩) (m + 1) c9) us gs m (.slice none 0 0) ∧ Stay w V9) := ⟨hShf, hT9.stay (HY.out.2.2.2.2.2.2.2.2.1.trans HS8.out) (fun i hi e => by have := (HY.out.2.2.2.2.2.2.1.lt i (.inl e)).1; omega)⟩
          clear hShf hT9
          go_wp2_with (first
            | (at_builtin; refine wpList_append_run rfl _ _ 22 22 rfl _ _ rfl rfl hap9 ?_; clear hap9))
          go_loopw [6] (fun i wr' => ∃ (q : Nat) (x : Value), p ≤ q ∧ q ≤ m ∧ i = .int .i64 (q : Int) ∧ Shf w.heap.size wr' (.slice (some ⟨G, 0, none⟩) (m + 1) c9) us gs q x ∧ Stay w wr') (fun i _ => (intOf i).toNat)
          case atStart => exact ⟨m, _, hp, Nat.le_refl _, by first | rfl | go_num | simp, HZ.out.1, HZ.out.2⟩
          case round =>
            rename World => wj
            obtain ⟨q, x, hq1, hq2, rfl, hF, hsj⟩ := hrel
            have hqm : (q : Int) < ((m + 1 : Nat) : Int) := by omega
            have hq0 : (0 : Int) ≤ (q : Int) := by omega
            by_cases hlt3 : p < q
            · obtain ⟨r, hqr⟩ : ∃ r, q = r + 1 := ⟨q - 1, by omega⟩
              have hru : r < us.length := by rw [HY.out.2.2.2.2.2.2.2.1]; omega
              obtain ⟨d1, d2, ⟨y, d3⟩, hF', hT'⟩ := hF.move' hqr hru
              obtain ⟨ea, em, ec, he⟩ := hF.slice hru
              rw [he] at d1 hF' hT'
              have hr1 : (q : Int) - 1 = (r : Int) := by omega
              have hr2 : (r : Int) < ((m + 1 : Nat) : Int) := by omega
              have hr3 : (0 : Int) ≤ (r : Int) := by omega
              have hr4 : (p : Int) < (q : Int) := by omega
              have HR : Hid (Shf w.heap.size (wj.setCell ⟨G, q, none⟩ (.slice ea em ec)) (.slice (some ⟨G, 0, none⟩) (m + 1) c9) us gs r (.slice ea em ec) ∧ Stay w (wj.setCell ⟨G, q, none⟩ (.slice ea em ec)) ∧ q = r + 1) := ⟨hF', hT'.stay hsj (fun i hi e => by have := hF.base_le; omega), hqr⟩
              clear hF hF' hT' hsj hqr he hru
              go_wp2
              go_roundw
              case rel => exact ⟨r, _, by have := HR.out.2.2; omega, by have := HR.out.2.2; omega, by first | rfl | go_num | simp, HR.out.1, HR.out.2.1⟩
              case measure => have := HR.out.2.2; simp [intOf]; omega
            · have hqp : q = p := by omega
              obtain ⟨hcj, hSj⟩ := HC.out wj hsj
              obtain ⟨u1, V1, hap1, ho1, hg1, _, _⟩ := (OwnS.nil (base := wj.heap.size) (w := wj)).add 39 hSj HY.out.2.2.2.2.2.2.2.2.2.1 (by rw [List.length_nil, Nat.zero_add, ← HTN.out]; omega) (Nat.le_refl _)
              rw [List.nil_append] at ho1
              have hs1 : Stay wj V1 := (Turn.of_grown hg1).stay (Stay.refl _) (fun i _ e => by simp [Value.ownBlock] at e)
              rw [hqp] at hF
              obtain ⟨f1, ⟨y, f2⟩, f3, f4⟩ := hF.put hs1 ho1 hsj.size
              obtain ⟨ua, un, uc, rfl⟩ := own_one ho1
              rw [← HTN.out] at hap1
              have hlen9 : p ≤ gs.length := by rw [hgl]; exact hp
              have hgs2 : gs2 = gs.take p ++ tx :: gs.drop p := HY.out.2.2.2.2.2.1.trans (ins_at HY.out.2.2.2.1 hlen9 HLO.out HHI.out)
              rw [← hgs2] at f3
              have HF : Hid ((∃ us', OwnG w.heap.size (V1.setCell ⟨G, p, none⟩ (.slice ua un uc)) (.slice (some ⟨G, 0, none⟩) (m + 1) c9) us' (setR ((ts.map Tx.xs).take (k + 1)))) ∧ Stay w (V1.setCell ⟨G, p, none⟩ (.slice ua un uc))) := ⟨⟨_, by rw [← HG2.out]; exact f3⟩, f4.stay (hsj.trans hs1) (fun i hi e => by have := hF.base_le; omega)⟩
              have hr4 : ¬ (p : Int) < (q : Int) := by omega
              have hpm : (p : Int) < ((m + 1 : Nat) : Int) := by omega
              have hp00 : (0 : Int) ≤ (p : Int) := by omega
              clear hF hSj ho1 hg1 hs1 f3 f4 hgs2 hlen9 hqp
              go_wp2_with (first
                | (at_builtin; refine wpList_append_run rfl _ _ 39 39 rfl _ _ rfl rfl hap1 ?_; clear hap1))
              go_roundw
              case rel => exact ⟨k + 1, by omega, by simp, HF.out.1, HF.out.2⟩
              case measure => simp [intOf]; omega
    · have hki : ¬ (k : Int) < (n : Int) := by omega
      rw [List.take_of_length_le (by rw [List.length_map, ← HX.out.2.1]; omega)] at hown
      go_wp2
      go_ret
      exact ⟨_, us, rfl, hown, hst⟩
end Go.Proofs.Ytbbgembkdhcidaa
