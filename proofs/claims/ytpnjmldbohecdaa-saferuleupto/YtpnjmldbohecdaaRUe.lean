/- The document's way: the walk. -/
import Derived.Test.YtpnjmldbohecdaaRUd
import Derived.Test.YtpnjmldbohecdaaRUa
import Derived.Test.YtpnjmldbohecdaaSVa
import Derived.Deep.CutRange
namespace Go.Proofs.Ytpnjmldbohecdaa
open Go.RowKit Go.Maps Go.Shelf

def lenV : Value → Nat
  | .slice _ n _ => n
  | _ => 0
/-- The first that is ready was found, or none is. -/
def BoundP (w1 : World) (vo : Value) (la : Option Addr) (lb : Nat) (out left : List Int) (bd : List ByteArray) (l : Li) (v : Value) (W : World) : Prop :=
  ∃ bd2, MyI w1 vo v la lb out left bd2 W ∧ (∀ s, s ∈ bd2 ↔ s ∈ bd ∨ (l.kind = 1 ∧ s ∈ varsT l.terms)) ∧ bd2.length ≤ bd.length + 1048578

theorem nine_keep {W W' : World} {p0 p1 p2 p3 p4 p5 p6 p7 p8 : Addr} {c0 c1 c2 c3 c4 c5 c6 c7 c8 : Value} (h : W.cell? p0 = some c0 ∧ W.cell? p1 = some c1 ∧ W.cell? p2 = some c2 ∧ W.cell? p3 = some c3 ∧ W.cell? p4 = some c4 ∧ W.cell? p5 = some c5 ∧ W.cell? p6 = some c6 ∧ W.cell? p7 = some c7 ∧ W.cell? p8 = some c8) (hs : Stay W W') :
    W'.cell? p0 = some c0 ∧ W'.cell? p1 = some c1 ∧ W'.cell? p2 = some c2 ∧ W'.cell? p3 = some c3 ∧ W'.cell? p4 = some c4 ∧ W'.cell? p5 = some c5 ∧ W'.cell? p6 = some c6 ∧ W'.cell? p7 = some c7 ∧ W'.cell? p8 = some c8 :=
  ⟨hs.cell h.1, hs.cell h.2.1, hs.cell h.2.2.1, hs.cell h.2.2.2.1, hs.cell h.2.2.2.2.1, hs.cell h.2.2.2.2.2.1, hs.cell h.2.2.2.2.2.2.1, hs.cell h.2.2.2.2.2.2.2.1, hs.cell h.2.2.2.2.2.2.2.2⟩

set_option maxRecDepth 100000 in
set_option maxHeartbeats 8000000 in
theorem yWay_any (x : Ru) (w : World) (hx : x.fit w) (hk : kindsOk x.body) : Calls Try.prog 9 #[x.v] w (WayR w x.body) := by
  obtain ⟨⟨hp, ha, hb, ho, hcp, hts⟩, ba, bb, bo, bc, ls⟩ := x
  dsimp only [Ru.v, At.sl] at *
  obtain ⟨R, hR⟩ : ∃ R, R = WayR w ls := ⟨_, rfl⟩
  rw [← hR]
  have HR : Hid (R = WayR w ls) := hR
  obtain ⟨w1, hw1⟩ : ∃ w1, w1 = w.alloc (.cells #[.string hp, .slice ha hts.length hcp, .slice ba ls.length bc] 27) := ⟨_, rfl⟩
  have s0 : Stay w w1 := by rw [hw1]; exact Stay.new _ _
  have z0 : w1.heap.size = w.heap.size + 1 := by rw [hw1]; simp
  have b0 : w1.heap[w.heap.size]? = some (.cells #[.string hp, .slice ha hts.length hcp, .slice ba ls.length bc] 27 (0, 0)) := by rw [hw1]; exact heap_new _ _
  have HC : Hid (∀ V, Stay w1 V → V.cell? ⟨w.heap.size, 2, none⟩ = some (.slice ba ls.length bc)) := fun V hV => by
    have := (hV.block _ (by omega)).trans b0
    simp [World.cell?, this]
  have HM : Hid (LisS w1 ba bb bo ls ∧ (∀ l ∈ ls, l.fit w1) ∧ kindsOk ls) := ⟨hx.ins.2.stay s0, fun l hl => (Ru.fit.lit hx hl).stay s0, hk⟩
  have hln : ls.length ≤ 1048576 := hx.small.2.1
  have HZ : Hid (Stay w w1 ∧ w1.heap.size = w.heap.size + 1) := ⟨s0, z0⟩
  clear hR b0 hx hk s0 z0
  go_enter Try.func9, Try.ntmps9
  go_wp2
  rw [← hw1]
  clear hw1
  go_loopw [6, 7] (fun vv u wr => ∃ (j : Nat) (v0 : Value), v0 = vv ∧ j ≤ ls.length ∧ u = .int .i64 (j : Int) ∧ OwnR 3 1 encI w1.heap.size wr v0 (idxT 0 (ls.take j)) ∧ Stay w1 wr) (fun _ u _ => ls.length - (intOf u).toNat)
  case atStart => exact ⟨0, _, rfl, Nat.zero_le _, rfl, by simpa [idxT] using OwnR.nil, Stay.refl _⟩
  case round =>
    obtain ⟨j, v0, rfl, hj, rfl, hO, hS⟩ := hrel
    have c2 := HC.out wr hS
    by_cases hlt : j < ls.length
    · have hki : (j : Int) < (ls.length : Int) := by omega
      obtain rfl := HM.out.1.1 (by omega)
      have k0 := hS.cell (HM.out.1.2 j hlt).1
      have htk := idxT_take hlt
      have hle : (idxT 0 (ls.take j)).length ≤ j := by
        rw [idxT_len]
        refine Nat.le_trans (List.length_filter_le _ _) ?_
        rw [List.length_take]
        omega
      obtain ⟨a1, k1, w2, hap, hO2, hB2, -⟩ := own_push encIOk Try.underlying32 infoI rfl hO (j : Int) (by unfold maxLen; omega) (by omega) hS.size 32
      have HO : Hid (OwnR 3 1 encI w1.heap.size wr v0 (idxT 0 (ls.take j)) ∧ OwnR 3 1 encI w1.heap.size w2 (.slice a1 ((idxT 0 (ls.take j)).length + 1) k1) (idxT 0 (ls.take j) ++ [(j : Int)]) ∧ Stay w1 wr ∧ Stay w1 w2) := ⟨hO, hO2, hS, Below.trans hS hB2⟩
      have HT : Hid (idxT 0 (ls.take (j + 1)) = idxT 0 (ls.take j) ++ (if ofThree ls[j] = true then [(j : Int)] else [])) := htk
      have HK : Hid (ofThree ls[j] = true ↔ 1 ≤ ls[j].kind ∧ ls[j].kind ≤ 3) := by
        show _ ↔ _
        unfold ofThree
        simp only [Bool.or_eq_true, beq_iff_eq]
        omega
      clear hO hO2 hB2 hS htk hle
      dsimp only [encI] at hap
      generalize (idxT 0 (ls.take j)).length = nv at *
      generalize ls[j] = l at *
      by_cases h1 : 1 ≤ l.kind
      · by_cases h3 : l.kind ≤ 3
        · have HN : Hid (OwnR 3 1 encI w1.heap.size w2 (.slice a1 (nv + 1) k1) (idxT 0 (ls.take (j + 1))) ∧ Stay w1 w2) := ⟨by rw [HT.out, if_pos (HK.out.2 ⟨h1, h3⟩)]; exact HO.out.2.1, HO.out.2.2.2⟩
          clear HT HK HO
          generalize l.kind = kd at *
          go_wp2_with (at_builtin; refine wpList_append_run rfl (.tmp 37) (.tmp 39) 32 32 rfl _ _ rfl rfl hap ?_; clear hap)
          go_roundw
          case rel => exact ⟨j + 1, _, rfl, by omega, by simp, HN.out⟩
          case measure => simp [intOf]; omega
        · have HN : Hid (OwnR 3 1 encI w1.heap.size wr v0 (idxT 0 (ls.take (j + 1))) ∧ Stay w1 wr) := ⟨by rw [HT.out, if_neg (fun e => h3 (HK.out.1 e).2), List.append_nil]; exact HO.out.1, HO.out.2.2.1⟩
          clear HT HK HO hap
          generalize l.kind = kd at *
          go_wp2_with fail
          go_roundw
          case rel => exact ⟨j + 1, _, rfl, by omega, by simp, HN.out⟩
          case measure => simp [intOf]; omega
      · have HN : Hid (OwnR 3 1 encI w1.heap.size wr v0 (idxT 0 (ls.take (j + 1))) ∧ Stay w1 wr) := ⟨by rw [HT.out, if_neg (fun e => h1 (HK.out.1 e).1), List.append_nil]; exact HO.out.1, HO.out.2.2.1⟩
        clear HT HK HO hap
        generalize l.kind = kd at *
        go_wp2_with fail
        go_roundw
        case rel => exact ⟨j + 1, _, rfl, by omega, by simp, HN.out⟩
        case measure => simp [intOf]; omega
    · obtain rfl : j = ls.length := by omega
      rw [List.take_of_length_le (Nat.le_refl _)] at hO
      obtain ⟨la0, lb0, lc0, rfl, hLR, -, hLp, -⟩ := hO.form encIOk
      have hle : (idxT 0 ls).length ≤ ls.length := by
        rw [idxT_len]
        exact List.length_filter_le _ _
      have HW : Hid (WyI w1 ls (.slice none 0 0) (.slice none 0 0) la0 lb0 [] (idxT 0 ls) [] wr) :=
        ⟨⟨OwnR.nil, OwnR.nil, hLR, fun h0 => ⟨(hO.lt lb0 (by rw [hLp h0]; rfl)).2, (fun e => by cases e), (fun e => by cases e)⟩, (fun q e => by cases e), hS⟩, Gr.start ls, by simpa using hle, by simp⟩
      clear hO hS hLR hLp hle
      rename World => w3
      go_wp2
      clear c2
      go_loopw [4, 5, 6] (fun vo vb vl wr => ∃ (v1 v2 : Value) (la : Option Addr) (lb lc : Nat) (out left : List Int) (bd : List ByteArray), v1 = vo ∧ v2 = vb ∧ vl = .slice la left.length lc ∧ WyI w1 ls v1 v2 la lb out left bd wr) (fun _ _ vl _ => lenV vl)
      case atStart => exact ⟨_, _, la0, lb0, lc0, [], idxT 0 ls, [], rfl, rfl, rfl, HW.out⟩
      case round =>
        clear HW
        obtain ⟨vo, vb, la, lb, lc, out, left, bd, rfl, rfl, rfl, hW⟩ := hrel
        rename World => wa
        have HW : Hid (WyI w1 ls vo vb la lb out left bd wa) := hW
        obtain ⟨n, hn⟩ : ∃ n, n = left.length := ⟨_, rfl⟩
        have HN : Hid (n = left.length) := hn
        have hnf : n ≤ 1048576 := by have := hW.few; omega
        rw [← hn]
        obtain ⟨xa, xb, xc, rfl, hBR, -⟩ := hW.mem.bnd.form encStOk
        have hbl : bd.length ≤ 1099513724928 := by
          have h1 := hW.bfew
          have h2 : out.length * 1048578 ≤ 1048576 * 1048578 := Nat.mul_le_mul_right _ (by have := hW.few; omega)
          omega
        have HB : Hid (RecS 1 encSt wa xa xb 0 bd) := hBR
        clear hW hn hBR
        by_cases h0 : 0 < n
        · have h0i : (0 : Int) < (n : Int) := by omega
          go_wp2
          go_loopw [8, 9] (fun va u wx => ∃ (j : Nat) (v0 : Value), v0 = va ∧ u = .int .i64 (j : Int) ∧ j ≤ n ∧ AtP ls left bd j v0 ∧ Stay wa wx) (fun _ u _ => n - (intOf u).toNat)
          case atStart => exact ⟨0, _, rfl, rfl, Nat.zero_le _, .inl ⟨rfl, fun k h => absurd h (Nat.not_lt_zero _)⟩, Stay.refl _⟩
          case round =>
            obtain ⟨j, v0, rfl, rfl, hj, hat, hst⟩ := hrel
            rename World => wb
            have HS : Hid (Stay wa wb) := hst
            have c2 := HC.out wb (HW.out.mem.stay.trans hst)
            clear hst
            rcases hat with ⟨rfl, hno⟩ | ⟨a, rfl, hal, rfl, hno, hrd⟩
            · have HNo : Hid (NoneR ls left bd j) := hno
              clear hno
              by_cases hlt : j < n
              · have hjl : j < left.length := by have := HN.out; omega
                have hki : (j : Int) < (n : Int) := by omega
                obtain ⟨i, l, hli, hl⟩ : ∃ (i : Nat) (l : Li), left[j] = (i : Int) ∧ ls[i]? = some l := by
                  have hm : ∀ z ∈ left, z ∈ leftO ls out := fun z hz => by rw [← HW.out.gr.lft]; exact hz
                  obtain ⟨⟨i, l, e1, e2, -⟩, -⟩ := leftO_mem.1 (hm _ (List.getElem_mem hjl))
                  exact ⟨i, l, e1, e2⟩
                obtain ⟨hil, hle⟩ := List.getElem?_eq_some_iff.1 hl
                obtain rfl := HM.out.1.1 (by omega)
                obtain rfl := HW.out.mem.lft.1 (by omega)
                have p0 := HS.out.cell (HW.out.mem.lft.2 j hjl 0 _ rfl)
                simp only [Nat.mul_one, Nat.add_zero, Nat.zero_add] at p0
                rw [hli] at p0
                have S1 : Hid (Stay w1 wb) := HW.out.mem.stay.trans HS.out
                obtain ⟨k0, k1, k2, k3, k4, k5, k6, -⟩ := LisS.stay HM.out.1 S1.out |>.2 i hil
                have hmem : l ∈ ls := hle ▸ List.getElem_mem hil
                have HL : Hid (left[j] = (i : Int) ∧ ls[i]? = some l ∧ l.fit w1 ∧ (Lit.int .i64 l.kind).wf = true) := ⟨hli, hl, HM.out.2.1 l hmem, HM.out.2.2 l hmem⟩
                have hii : (i : Int) < (ls.length : Int) := by omega
                rw [hle] at k0 k1 k2 k3 k4 k5 k6
                clear hli hl hle hmem
                have hrdy := fun V (hV : Stay wb V) => yReady_any l V (HL.out.2.2.1.stay (S1.out.trans hV)) HL.out.2.2.2 xa xb 0 xc bd (HB.out.stay (HS.out.trans hV)) (by omega)
                obtain ⟨rd, hrd⟩ : ∃ rd, rd = readyB l bd := ⟨_, rfl⟩
                rw [← hrd] at hrdy
                have HRD : Hid (rd = readyB l bd) := hrd
                clear hrd
                obtain ⟨kind, ⟨pred, aa, ab, aoff, acap, ats⟩, ⟨lv, lt⟩, ⟨rv, rt⟩⟩ := l
                dsimp only [Li.v, At.sl] at hrdy k0 k1 k2 k3 k4 k5 k6
                go_upto_region 14 with fail
                --@14@
                have en1 : ∀ args w, (callFunc 16 args).run Try.prog w = .ok (.enter 16 args) w := enters_of Try.func16 (by kernel_rfl) rfl
                have hS : wb.drew.cell? ⟨w.heap.size, 2, none⟩ = some (.slice (some ⟨bb, bo, none⟩) ls.length bc) ∧ wb.drew.cell? ⟨lb, j, none⟩ = some (.int .i64 (i : Int)) ∧ wb.drew.cell? ⟨bb, bo + i * 7, none⟩ = some (.int .i64 kind) ∧ wb.drew.cell? ⟨bb, bo + i * 7 + 1, none⟩ = some (.string pred) ∧ wb.drew.cell? ⟨bb, bo + i * 7 + 2, none⟩ = some (.slice aa ats.length acap) ∧ wb.drew.cell? ⟨bb, bo + i * 7 + 3, none⟩ = some (.bool lv) ∧ wb.drew.cell? ⟨bb, bo + i * 7 + 4, none⟩ = some (.string lt) ∧ wb.drew.cell? ⟨bb, bo + i * 7 + 5, none⟩ = some (.bool rv) ∧ wb.drew.cell? ⟨bb, bo + i * 7 + 6, none⟩ = some (.string rt) := ⟨c2, p0, k0, k1, k2, k3, k4, k5, k6⟩
                refine region_wpH (S := fun W => W.cell? ⟨w.heap.size, 2, none⟩ = some (.slice (some ⟨bb, bo, none⟩) ls.length bc) ∧ W.cell? ⟨lb, j, none⟩ = some (.int .i64 (i : Int)) ∧ W.cell? ⟨bb, bo + i * 7, none⟩ = some (.int .i64 kind) ∧ W.cell? ⟨bb, bo + i * 7 + 1, none⟩ = some (.string pred) ∧ W.cell? ⟨bb, bo + i * 7 + 2, none⟩ = some (.slice aa ats.length acap) ∧ W.cell? ⟨bb, bo + i * 7 + 3, none⟩ = some (.bool lv) ∧ W.cell? ⟨bb, bo + i * 7 + 4, none⟩ = some (.string lt) ∧ W.cell? ⟨bb, bo + i * 7 + 5, none⟩ = some (.bool rv) ∧ W.cell? ⟨bb, bo + i * 7 + 6, none⟩ = some (.string rt)) (by kernel_rfl) ?_
                refine wpAnyH_take (i := 0) (v := .pointer (some ⟨w.heap.size, 2, none⟩)) rfl (by kernel_rfl) (by kernel_rfl) (by kernel_rfl) (fun _ _ _ h => h) (Or.inl ⟨by rfl, fun W _ => by first | (go_simp; done) | (go_simp; with_reducible rfl)⟩) hS ?_
                refine wpAnyH_take (i := 1) (v := .slice (some ⟨bb, bo, none⟩) ls.length bc) rfl (by kernel_rfl) (by kernel_rfl) (by kernel_rfl) (fun _ _ _ h => h) (Or.inl ⟨by rfl, fun W hW => by obtain ⟨q0, q1, q2, q3, q4, q5, q6, q7, q8⟩ := hW; first | (go_simp; done) | (go_simp; with_reducible rfl)⟩) hS ?_
                refine wpAnyH_take (i := 2) (v := .slice (some ⟨lb, 0, none⟩) n lc) rfl (by kernel_rfl) (by kernel_rfl) (by kernel_rfl) (fun _ _ _ h => h) (Or.inl ⟨by rfl, fun W _ => by first | (go_simp; done) | (go_simp; with_reducible rfl)⟩) hS ?_
                refine wpAnyH_take (i := 3) (v := .int .i64 (j : Int)) rfl (by kernel_rfl) (by kernel_rfl) (by kernel_rfl) (fun _ _ _ h => h) (Or.inl ⟨by rfl, fun W _ => by first | (go_simp; done) | (go_simp; with_reducible rfl)⟩) hS ?_
                refine wpAnyH_take (i := 4) (v := .pointer (some ⟨lb, j, none⟩)) rfl (by kernel_rfl) (by kernel_rfl) (by kernel_rfl) (fun _ _ _ h => h) (Or.inl ⟨by rfl, fun W _ => by first | (go_simp; done) | (go_simp; with_reducible rfl)⟩) hS ?_
                refine wpAnyH_take (i := 5) (v := .int .i64 (i : Int)) rfl (by kernel_rfl) (by kernel_rfl) (by kernel_rfl) (fun _ _ _ h => h) (Or.inl ⟨by rfl, fun W hW => by obtain ⟨q0, q1, q2, q3, q4, q5, q6, q7, q8⟩ := hW; first | (go_simp; done) | (go_simp; with_reducible rfl)⟩) hS ?_
                refine wpAnyH_take (i := 6) (v := .pointer (some ⟨bb, bo + i * 7, none⟩)) rfl (by kernel_rfl) (by kernel_rfl) (by kernel_rfl) (fun _ _ _ h => h) (Or.inl ⟨by rfl, fun W _ => by first | (go_simp; done) | (go_simp; with_reducible rfl)⟩) hS ?_
                refine wpAnyH_take (i := 7) (v := .agg #[.int .i64 kind, .string pred, .slice aa ats.length acap, .bool lv, .string lt, .bool rv, .string rt]) rfl (by kernel_rfl) (by kernel_rfl) (by kernel_rfl) (fun _ _ _ h => h) (Or.inl ⟨by rfl, fun W hW => by obtain ⟨q0, q1, q2, q3, q4, q5, q6, q7, q8⟩ := hW; first | (go_simp; done) | (go_simp; with_reducible rfl)⟩) hS ?_
                refine wpAnyH_take (i := 8) (v := .slice xa bd.length xc) rfl (by kernel_rfl) (by kernel_rfl) (by kernel_rfl) (fun _ _ _ h => h) (Or.inl ⟨by rfl, fun W _ => by first | (go_simp; done) | (go_simp; with_reducible rfl)⟩) hS ?_
                refine wpAnyH_ready (rs := [9]) (by kernel_rfl) (by simp) (AllReadyH.cons (o := { dst := some 63, op := Op.call { callee := Callee.value (Operand.func 16), args := #[Operand.tmp 61, Operand.tmp 62], argTypes := #[53, 28] }, type := 4, pos := "ref.go:122", after := #[{ on := 7, ground := Ground.data }, { on := 8, ground := Ground.data }], guard := none }) rfl (fun K hK => ?_) AllReadyH.nil)
                refine step_goG (by rfl) 16 _ _ rfl (args := #[.agg #[.int .i64 kind, .string pred, .slice aa ats.length acap, .bool lv, .string lt, .bool rv, .string rt], .slice xa bd.length xc]) (by first | rfl | (simp [Act.eval]; done) | simp [Act.eval, Act.put]) en1 ?_
                refine (hrdy _ (Stay.drew _)).mono ?_
                rintro e W9 ⟨rfl, s9⟩
                refine ⟨_, rfl, ?_⟩
                (try go_simp)
                refine hK.out _ _ (nine_keep hS s9) (fun hS => ?_)
                clear hK K
                refine wpAnyH_take (i := 10) (v := .bool rd) rfl (by kernel_rfl) (by kernel_rfl) (by kernel_rfl) (fun _ _ _ h => h) (Or.inl ⟨by rfl, fun W _ => by first | (go_simp; done) | (go_simp; with_reducible rfl)⟩) hS ?_
                refine wpAnyH_done (by kernel_rfl) ?_ _
                unfold normQ
                have HS9 : Hid (Stay wa W9) := HS.out.trans ((Stay.drew wb).trans s9)
                clear hS hrdy s9 c2 p0 k0 k1 k2 k3 k4 k5 k6 en1
                cases rd
                · have HX : Hid (AtP ls left bd (j + 1) (.int .i64 (-1))) := .inl ⟨rfl, fun k hk hkl l' hl' => by
                    rcases Nat.lt_or_eq_of_le (Nat.le_of_lt_succ hk) with h | h
                    · exact HNo.out k h hkl l' hl'
                    · subst h
                      rw [HL.out.1, Int.toNat_natCast, HL.out.2.1] at hl'
                      cases hl'
                      exact HRD.out.symm⟩
                  go_wp2_with fail
                  go_roundw
                  case rel => exact ⟨j + 1, _, rfl, by simp, by omega, HX.out, HS9.out⟩
                  case measure => simp [intOf]; omega
                · have HX : Hid (AtP ls left bd (j + 1) (.int .i64 (j : Int))) := .inr ⟨j, rfl, hjl, rfl, HNo.out, fun l' hl' => by
                    rw [HL.out.1, Int.toNat_natCast, HL.out.2.1] at hl'
                    cases hl'
                    exact HRD.out.symm⟩
                  go_wp2_with fail
                  go_roundw
                  case rel => exact ⟨j + 1, _, rfl, by simp, by omega, HX.out, HS9.out⟩
                  case measure => simp [intOf]; omega
                --@14.@
              · obtain rfl : j = n := by omega
                have HF : Hid (wayOk ls = false) := HW.out.gr.stuck (by have := HN.out; omega) fun k hk l' hl' => HNo.out k (by have := HN.out; omega) hk l' hl'
                have HSS : Hid (Stay w wb) := HZ.out.1.trans (HW.out.mem.stay.trans HS.out)
                clear HNo HW HB HS c2
                go_wp2
                show R _ _
                rw [HR.out]
                unfold WayR wayL
                rw [HF.out, if_neg (by simp)]
                exact ⟨none, 0, rfl, OwnR.nil, HSS.out⟩
            · have HNo : Hid (NoneR ls left bd a ∧ ∀ l, ls[left[a].toNat]? = some l → readyB l bd = true) := ⟨hno, hrd⟩
              have haln : a < n := by have := HN.out; omega
              clear hno hrd
              have hna : ¬ ((a : Int) < 0) := by omega
              go_upto_region 12 with fail
              go_cut [51] from 44 to 65 (fun v wx => v = .bool false ∧ wx = wb)
              case first =>
                by_cases h : (a : Int) + 1 < (n : Int)
                · go_wp2
                  go_meet
                  case rel => exact ⟨rfl, rfl⟩
                · go_wp2
                  go_meet
                  case rel => exact ⟨rfl, rfl⟩
              case rest =>
                obtain ⟨rfl, hwc⟩ := hcut
                subst hwc
                rename World => wb
                have hjl : a < left.length := hal
                have hki : (a : Int) < (n : Int) := by omega
                obtain ⟨i, l, hli, hl⟩ : ∃ (i : Nat) (l : Li), left[a] = (i : Int) ∧ ls[i]? = some l := by
                  have hm : ∀ z ∈ left, z ∈ leftO ls out := fun z hz => by rw [← HW.out.gr.lft]; exact hz
                  obtain ⟨⟨i, l, e1, e2, -⟩, -⟩ := leftO_mem.1 (hm _ (List.getElem_mem hjl))
                  exact ⟨i, l, e1, e2⟩
                obtain ⟨hil, hle⟩ := List.getElem?_eq_some_iff.1 hl
                obtain rfl := HM.out.1.1 (by omega)
                obtain rfl := HW.out.mem.lft.1 (by omega)
                have p0 := HS.out.cell (HW.out.mem.lft.2 a hjl 0 _ rfl)
                simp only [Nat.mul_one, Nat.add_zero, Nat.zero_add] at p0
                rw [hli] at p0
                have S1 : Hid (Stay w1 wb) := HW.out.mem.stay.trans HS.out
                obtain ⟨k0, k1, k2, k3, k4, k5, k6, -⟩ := LisS.stay HM.out.1 S1.out |>.2 i hil
                have hmem : l ∈ ls := hle ▸ List.getElem_mem hil
                have HL : Hid (left[a] = (i : Int) ∧ ls[i]? = some l ∧ l.fit w1 ∧ (Lit.int .i64 l.kind).wf = true) := ⟨hli, hl, HM.out.2.1 l hmem, HM.out.2.2 l hmem⟩
                have hii : (i : Int) < (ls.length : Int) := by omega
                rw [hle] at k0 k1 k2 k3 k4 k5 k6
                clear hli hl hle hmem
                obtain ⟨T, hT⟩ : ∃ T, T = l := ⟨_, rfl⟩
                obtain ⟨kind, ⟨pred, aa, ab, aoff, acap, ats⟩, ⟨lv, lt⟩, ⟨rv, rt⟩⟩ := l
                have HT : Hid (T = ⟨kind, ⟨pred, aa, ab, aoff, acap, ats⟩, ⟨lv, lt⟩, ⟨rv, rt⟩⟩) := hT
                rw [← hT] at HL
                clear hT
                dsimp only [At.sl] at k0 k1 k2 k3 k4 k5 k6
                have z1 : lb < wb.heap.size := World.block_lt_of_cell? wb _ p0
                have z2 : bb < wb.heap.size := World.block_lt_of_cell? wb _ k0
                have z3 : w.heap.size < wb.heap.size := World.block_lt_of_cell? wb _ c2
                go_upto_region 19 with fail
                go_cut [11] from 41 to 107 (fun v wx => ∃ B : Nat, v = .pointer (some ⟨B, 0, none⟩) ∧ wx.heap[B]? = some (.cells #[.int .i64 kind, .string pred, .slice aa ats.length acap, .bool lv, .string lt, .bool rv, .string rt] 53 (0, 0)) ∧ Stay wb wx)
                case first =>
                  go_region
                  go_wp2_with fail
                  go_meet
                  case rel => exact ⟨wb.heap.size, rfl, heap_new wb _, (Stay.new wb _).trans (Stay.drew _)⟩
                case rest =>
                  obtain ⟨B, rfl, hblk, hst⟩ := hcut
                  rename World => wd
                  have q0 : wd.cell? ⟨B, 0, none⟩ = some (.int .i64 kind) ∧ wd.cell? ⟨B, 1, none⟩ = some (.string pred) ∧ wd.cell? ⟨B, 2, none⟩ = some (.slice aa ats.length acap) ∧ wd.cell? ⟨B, 3, none⟩ = some (.bool lv) ∧ wd.cell? ⟨B, 4, none⟩ = some (.string lt) ∧ wd.cell? ⟨B, 5, none⟩ = some (.bool rv) ∧ wd.cell? ⟨B, 6, none⟩ = some (.string rt) := by simp [World.cell?, hblk]
                  obtain ⟨q0, q1, q2, q3, q4, q5, q6⟩ := q0
                  have HD : Hid (MyI w1 vo (.slice xa bd.length xc) (some ⟨lb, 0, none⟩) lb out left bd wd ∧ Stay wb wd) := ⟨HW.out.mem.keep (HS.out.trans hst), hst⟩
                  clear hst hblk k0 k1 k2 k3 k4 k5 k6 p0
                  go_upto_if 78 with fail
                  go_cut [5] from 41 to 107 (fun v wx => ∃ v2 : Value, v2 = v ∧ BoundP w1 vo (some ⟨lb, 0, none⟩) lb out left bd T v2 wx)
                  case first =>
                    cases hc : (kind == 1)
                    · have HX : Hid (BoundP w1 vo (some ⟨lb, 0, none⟩) lb out left bd T (.slice xa bd.length xc) wd) := by
                        refine ⟨bd, HD.out.1, fun s => ⟨.inl, fun h => h.elim id fun h => absurd h.1 ?_⟩, by omega⟩
                        rw [HT.out]
                        simpa using hc
                      go_wp2_with fail
                      go_meet
                      case rel => exact ⟨_, rfl, HX.out⟩
                    · have hk1 : kind = 1 := by simpa using hc
                      obtain ⟨V, hV⟩ : ∃ V, V = wd.alloc (.cells #[.int .i64 kind, .string pred, .slice aa ats.length acap, .bool lv, .string lt, .bool rv, .string rt] 53) := ⟨_, rfl⟩
                      have hsV : Stay wd V := by rw [hV]; exact Stay.new _ _
                      have hR7 : RecS 7 encLi V (some ⟨wd.heap.size, 0, none⟩) wd.heap.size 0 [T] := by
                        have := recs_lit encLiOk wd [T] 53
                        rw [show cellsR encLi [T] = encLi T by simp [cellsR], HT.out] at this
                        rw [hV, HT.out]
                        exact this
                      have hfT : T.fit V := HL.out.2.2.1.stay ((S1.out.trans HD.out.2).trans hsV)
                      have hbd := yBound_any [T] (some ⟨wd.heap.size, 0, none⟩) wd.heap.size 0 1 V (hR7.lis fun x hx => by rw [List.mem_singleton] at hx; subst hx; exact hfT.ins) ⟨by simp [bodyRu], by simp [bodyRu], fun x hx => by have hx : x ∈ [T] := hx; rw [List.mem_singleton] at hx; subst hx; exact hfT.few⟩ (fun x hx => by rw [List.mem_singleton] at hx; subst hx; exact HL.out.2.2.2)
                      have hb1 := bound_one hfT.few
                      have HY : Hid (∀ w9 na nc, OwnR 9 1 encSt V.heap.size w9 (.slice na (onceN (bindP [T])).length nc) (onceN (bindP [T])) → Stay V w9 → ∃ a2 n2 c2 W2, (Builtin.append_ #[28, 28] 28 #[.slice xa bd.length xc, .slice na (onceN (bindP [T])).length nc]).run Try.prog w9 = .ok (.slice a2 n2 c2) W2 ∧ BoundP w1 vo (some ⟨lb, 0, none⟩) lb out left bd T (.slice a2 n2 c2) W2) := fun w9 na nc hO9 hs9 => by
                        obtain ⟨a9, b9, c9, hv9, hR9, hn9, -⟩ := hO9.form encStOk
                        simp only [Value.slice.injEq] at hv9
                        obtain ⟨rfl, -, rfl⟩ := hv9
                        obtain ⟨a2, c2, W2, hap, hI2, -⟩ := (HD.out.1.keep (hsV.trans hs9)).pushB hR9 hn9 (by omega) 28
                        refine ⟨a2, _, c2, W2, hap, _, hI2, fun s => ?_, by rw [List.length_append]; omega⟩
                        rw [List.mem_append, bound_mem]
                      rw [hV] at hbd HY
                      dsimp only [List.length_singleton] at hbd
                      clear hV hR7 hfT hb1 hsV HT
                      subst hk1
                      go_wp2_with (first
                        | (go_at_call 13; refine hbd.mono ?_; rintro e w9 ⟨na, nc, rfl, hO9, hs9⟩; obtain ⟨a2, n2, c2, W2, hap, hBP⟩ := HY.out w9 na nc hO9 hs9; have HBP : Hid (BoundP w1 vo (some ⟨lb, 0, none⟩) lb out left bd T (.slice a2 n2 c2) W2) := hBP; clear hBP hO9 hs9 hbd)
                        | (at_builtin; refine wpList_append_run rfl (.tmp 79) (.tmp 82) 28 28 rfl _ _ rfl rfl hap ?_; clear hap))
                      go_meet
                      case rel => exact ⟨_, rfl, HBP.out⟩
                  case rest =>
                    obtain ⟨vb, rfl, bd2, hI2, hm2, hl2⟩ := hcut
                    rename World => we
                    have hof := HW.out.few
                    obtain ⟨a2, c2, W4, hap, hI4, -⟩ := hI2.pushO left[a] (by omega) 32
                    have e0 := hI2.lft.2 a hjl 0 _ rfl
                    simp only [Nat.mul_one, Nat.add_zero, Nat.zero_add] at e0
                    have HG : Hid (Gr ls (out ++ [left[a]]) (left.take a ++ left.drop (a + 1)) bd2) := HW.out.gr.push hjl (l := T) (by rw [HL.out.1]; simpa using HL.out.2.1) (fun k hk l' hl' => HNo.out.1 k hk (by omega) l' hl') (HNo.out.2 T (by rw [HL.out.1]; simpa using HL.out.2.1)) hm2
                    rw [HL.out.1] at hap e0
                    have HI4 : Hid (MyI w1 (.slice a2 (out.length + 1) c2) vb (some ⟨lb, 0, none⟩) lb (out ++ [left[a]]) left bd2 W4 ∧ bd2.length ≤ bd.length + 1048578) := ⟨hI4, hl2⟩
                    clear hI2 hI4 hm2 hl2 q0 q1 q2 q3 q4 q5 q6
                    go_wp2_with (at_builtin; refine wpList_append_run rfl (.tmp 84) (.tmp 89) 32 32 rfl _ _ rfl rfl hap ?_; clear hap)
                    go_loopw [12, 13] (fun vr u wx => ∃ (j : Nat) (v0 : Value), v0 = vr ∧ u = .int .i64 (j : Int) ∧ j ≤ n ∧ OwnR 3 1 encI W4.heap.size wx v0 (restN left a j) ∧ Stay W4 wx) (fun _ u _ => n - (intOf u).toNat)
                    case atStart => exact ⟨0, _, rfl, rfl, Nat.zero_le _, by rw [restN_zero]; exact OwnR.nil, Stay.refl _⟩
                    case round =>
                      obtain ⟨j, v0, rfl, rfl, hj, hO, hst⟩ := hrel
                      rename World => wf
                      by_cases hlt : j < n
                      · have hji : (j : Int) < (n : Int) := by omega
                        have hjm : j < left.length := by have := HN.out; omega
                        by_cases hja : j = a
                        · have hne : ((j : Int) != (a : Int)) = false := by simp [hja]
                          have hre : restN left a (j + 1) = restN left a j := by rw [hja]; exact restN_same
                          have HX : Hid (OwnR 3 1 encI W4.heap.size wf v0 (restN left a (j + 1)) ∧ Stay W4 wf) := ⟨by rw [hre]; exact hO, hst⟩
                          clear hre
                          clear hO hst hja
                          go_wp2_with fail
                          go_roundw
                          case rel => exact ⟨j + 1, _, rfl, by simp, by omega, HX.out⟩
                          case measure => simp [intOf]; omega
                        · have hne : ((j : Int) != (a : Int)) = true := by simp; omega
                          have g0 := (HI4.out.1.keep hst).lft.2 j hjm 0 _ rfl
                          simp only [Nat.mul_one, Nat.add_zero, Nat.zero_add] at g0
                          have hrl := restN_len left a j
                          obtain ⟨a3, c3, w5, hap, hO5, hB5, -⟩ := own_push encIOk Try.underlying32 infoI rfl hO left[j] (by unfold maxLen; omega) (by omega) hst.size 32
                          have HX : Hid (OwnR 3 1 encI W4.heap.size w5 (.slice a3 ((restN left a j).length + 1) c3) (restN left a (j + 1)) ∧ Stay W4 w5) := ⟨by rw [restN_step hjm hja]; exact hO5, Below.trans hst hB5⟩
                          clear hO hst hO5 hB5 hja hrl
                          dsimp only [encI] at hap
                          generalize left[j] = z at *
                          generalize (restN left a j).length + 1 = q at *
                          go_wp2_with (at_builtin; refine wpList_append_run rfl (.tmp 100) (.tmp 105) 32 32 rfl _ _ rfl rfl hap ?_; clear hap)
                          go_roundw
                          case rel => exact ⟨j + 1, _, rfl, by simp, by omega, HX.out⟩
                          case measure => simp [intOf]; omega
                      · obtain rfl : j = n := by omega
                        obtain ⟨a6, b6, c6, rfl, hI6⟩ := HI4.out.1.next hO hst
                        have hnl := HN.out
                        rw [hnl, restN_all hjl] at hI6
                        have HX : Hid (WyI w1 ls (.slice a2 (out.length + 1) c2) vb a6 b6 (out ++ [left[a]]) (left.take a ++ left.drop (a + 1)) bd2 wf ∧ (restN left a j).length = (left.take a ++ left.drop (a + 1)).length ∧ (left.take a ++ left.drop (a + 1)).length < j) := by
                          have hll : (left.take a ++ left.drop (a + 1)).length = left.length - 1 := by
                            rw [List.length_append, List.length_take, List.length_drop]
                            omega
                          refine ⟨⟨hI6, HG.out, ?_, ?_⟩, by rw [hnl, restN_all hjl], by omega⟩
                          · rw [hll, List.length_append, List.length_singleton]
                            omega
                          · have h1 := HI4.out.2
                            have h2 := HW.out.bfew
                            rw [List.length_append, List.length_singleton, Nat.add_mul]
                            omega
                        rw [HX.out.2.1]
                        clear hO hst hI6 hnl
                        go_wp2
                        go_roundw
                        case rel => exact ⟨_, _, a6, b6, c6, _, _, bd2, rfl, rfl, rfl, HX.out.1⟩
                        case measure => simp only [lenV]; exact HX.out.2.2
        · obtain rfl : n = 0 := by omega
          have HF : Hid (R (.returned (.tuple #[vo, .bool true])) wa) := by
            show R _ _
            rw [HR.out]
            have hl : left = [] := List.eq_nil_of_length_eq_zero HN.out.symm
            have hg := HW.out.gr
            rw [hl] at hg
            obtain ⟨h1, h2⟩ := hg.done
            obtain ⟨oa, ob, oc, rfl, -⟩ := HW.out.mem.out.form encIOk
            have hwl : wayL ls = out := by unfold wayL; rw [show wayOk ls = true from h1, if_pos rfl, h2]
            unfold WayR
            rw [hwl, show wayOk ls = true from h1]
            exact ⟨oa, oc, rfl, HW.out.mem.out.base (by have := HZ.out.2; omega), HZ.out.1.trans HW.out.mem.stay⟩
          clear HW HB HR
          go_wp2
          exact HF.out
end Go.Proofs.Ytpnjmldbohecdaa
