/- SafeMore's walk. -/
import Derived.Test.YtnmeljenldadfaaQP
import Derived.Test.YtnmeljenldadfaaEB
import Derived.Test.YtnmeljenldadfaaQN
import Derived.Deep.CutRange
namespace Go.Proofs.Ytnmeljenldadfaa
open Go.RowKit Go.Maps Go.Shelf

/-- Bools in memory. -/
def BlsS (w : World) (a : Option Addr) (b off : Nat) (bs : List Bool) : Prop := (0 < bs.length → a = some ⟨b, off, none⟩) ∧ ∀ j (h : j < bs.length), w.cell? ⟨b, off + j, none⟩ = some (.bool bs[j])
theorem moreAt_len (ms : List Li) (i : Nat) : (moreAt ms i).length ≤ 1 := by
  unfold moreAt
  split
  · split <;> simp
  · simp
theorem safe_like {x y : Ru} (h : y.like x) (hx : ruleB x = true) : ruleB y = true := by
  rw [ruleB_iff] at *
  have hat : ∀ {p : Li → Prop}, (∀ j (h1 : j < y.body.length) (h2 : j < x.body.length), p x.body[j] → p y.body[j]) → (∃ l ∈ x.body, p l) → ∃ l ∈ y.body, p l := by
    rintro p hp ⟨l, hl, hpl⟩
    obtain ⟨j, hj, rfl⟩ := List.mem_iff_getElem.1 hl
    have hj' : j < y.body.length := by rw [h.2.1]; exact hj
    exact ⟨_, List.getElem_mem hj', hp j hj' hj hpl⟩
  intro s hs
  refine hat (p := fun l => l.kind = 1 ∧ s ∈ varsT l.terms) (fun j h1 h2 hp => ?_) (hx s ?_)
  · rw [(h.2.2 j h1 h2).1, like_terms (h.2.2 j h1 h2)]
    exact hp
  · rcases hs with hs | ⟨l, hl, hs⟩
    · exact .inl (h.1.2 ▸ hs)
    · obtain ⟨j, hj, rfl⟩ := List.mem_iff_getElem.1 hl
      have hj' : j < x.body.length := by rw [← h.2.1]; exact hj
      exact .inr ⟨_, List.getElem_mem hj', by rw [← like_terms (h.2.2 j hj hj')]; exact hs⟩

set_option maxRecDepth 100000 in
set_option maxHeartbeats 4000000 in
theorem safeMore_walk (x : Ru) (w : World) (ma : Option Addr) (mb mo mc : Nat) (ms : List Li) (oa : Option Addr) (ob oo oc : Nat) (bs : List Bool) (hx : x.fit w) (hf : x.fair) (hm : RecS 7 encLi w ma mb mo ms) (hms : ∀ m ∈ ms, m.fit w) (hbs : BlsS w oa ob oo bs) (hn1 : ms.length ≤ 1048576) (hn2 : bs.length ≤ 1048576) (hn3 : x.body.length ≤ 500000) :
    Calls Try.prog 7 #[x.v, .slice ma ms.length mc, .slice oa bs.length oc] w fun e w' => e = .returned (.bool true) ∧ Stay w w' := by
  obtain ⟨w0, hw0⟩ : ∃ w0, w0 = w.alloc (.cells #[.string x.head.pred, x.head.sl, .slice x.a x.body.length x.cap] 27) := ⟨_, rfl⟩
  have s0 : Stay w w0 := by rw [hw0]; exact Stay.new _ _
  have hb0 : w0.heap[w.heap.size]? = some (.cells #[.string x.head.pred, x.head.sl, .slice x.a x.body.length x.cap] 27 (0, 0)) := by rw [hw0]; exact heap_new _ _
  have hr0 := rule_fit x w0 (hx.stay s0)
  have hkn := known_any
  have hcr := fun V (hV : Stay w V) => copyRule_any x V (Ru.stay hx.ins hV) hf
  have hcells : ∀ V, Stay w0 V → V.cell? ⟨w.heap.size, 0, none⟩ = some (.string x.head.pred) ∧ V.cell? ⟨w.heap.size, 1, none⟩ = some (.slice x.head.a x.head.ts.length x.head.cap) ∧ V.cell? ⟨w.heap.size, 2, none⟩ = some (.slice x.a x.body.length x.cap) := fun V hV => by
    have := (hV.block _ (Array.getElem?_eq_some_iff.1 hb0).1).trans hb0
    simp [World.cell?, this, At.sl]
  have HC : Hid (∀ V, Stay w0 V → V.cell? ⟨w.heap.size, 0, none⟩ = some (.string x.head.pred) ∧ V.cell? ⟨w.heap.size, 1, none⟩ = some (.slice x.head.a x.head.ts.length x.head.cap) ∧ V.cell? ⟨w.heap.size, 2, none⟩ = some (.slice x.a x.body.length x.cap)) := hcells
  have HX : Hid (x.fit w ∧ RecS 7 encLi w ma mb mo ms ∧ (∀ m ∈ ms, m.fit w) ∧ BlsS w oa ob oo bs) := ⟨hx, hm, hms, hbs⟩
  clear hx hm hms hbs hf hcells
  dsimp only [Ru.v, At.sl] at *
  have hrb : Hid (ruleB x = ruleB x) := rfl
  generalize hok : ruleB x = ok at *
  generalize ruleN x = nm at *
  go_enter Try.func7, Try.ntmps7
  obtain ⟨e0, e1, e2⟩ := HC.out w0 (Stay.refl _)
  rw [hw0] at e0 e1 e2
  cases ok
  · go_wp2_with (first | (go_at_call 12; rw [← hw0]; refine hr0.mono ?_; rintro e w1 ⟨rfl, s1⟩; have S1 : Hid (Stay w w1) := s0.trans s1; clear s1) | (go_at_call 22; refine (hkn _).mono ?_; rintro e w2 ⟨rfl, s2⟩))
    go_ret
    exact ⟨rfl, S1.out.trans s2⟩
  · go_wp2_with (first | (go_at_call 12; rw [← hw0]; refine hr0.mono ?_; rintro e w1 ⟨rfl, s1⟩; obtain ⟨f0, f1, f2⟩ := HC.out w1 s1; have hc1 := hcr w1 (s0.trans s1); have S1 : Hid (Stay w0 w1) := s1; clear s1 hcr) | (go_at_call 8; refine hc1.mono ?_; rintro e w2 ⟨y, rfl, hyl, hyk, s2⟩))
    obtain ⟨V1, hV1⟩ : ∃ V1, V1 = w2.alloc (.cells #[.string y.head.pred, .slice y.head.a y.head.ts.length y.head.cap, .slice y.a y.body.length y.cap] 27) := ⟨_, rfl⟩
    rw [← hV1]
    have zV1 : V1.heap.size = w2.heap.size + 1 := by rw [hV1]; simp
    have sV1 : Stay w2 V1 := by rw [hV1]; exact Stay.new _ _
    have hc1 : V1.cell? ⟨w2.heap.size, 2, none⟩ = some (.slice y.a y.body.length y.cap) := by rw [hV1]; simp
    have sw2 : Stay w w2 := (s0.trans S1.out).trans s2
    have swV : Stay w V1 := sw2.trans sV1
    have s0V : Stay w0 V1 := (S1.out.trans s2).trans sV1
    have hyf : y.fit V1 := fit_like HX.out.1 hyl (hyk.stay sV1)
    have hyR : RecS 7 encLi V1 y.a y.b y.off y.body := (hyk.stay sV1).2.2.2.2.1.left
    have hyl2 : y.body.length ≤ 500000 := Nat.le_trans (Nat.le_of_eq hyl.2.1) hn3
    have hys : ruleB y = true := safe_like hyl hok
    have hS0 : SJ V1 (w2.heap.size + 1) y.head.pred (.slice y.head.a y.head.ts.length y.head.cap) (.slice none 0 0) (builtL ms bs y.body 0) (V1.alloc (.cells #[.string y.head.pred, .slice y.head.a y.head.ts.length y.head.cap, .slice none 0 0] 27)) := by
      refine ⟨?_, OwnR.nil, below_alloc _ _ _ (by omega)⟩
      rw [← zV1]; exact heap_new _ _
    have HM : Hid (∀ j (h : j < ms.length), V1.cell? ⟨mb, mo + j * 7, none⟩ = some (.int .i64 ms[j].kind) ∧ mb < w2.heap.size + 1) := fun j h => by
      have := swV.cell (HX.out.2.1.2 j h 0 _ rfl)
      rw [Nat.add_zero] at this
      exact ⟨this, by have := World.block_lt_of_cell? V1 _ this; dsimp only at this; omega⟩
    have HF : Hid (y.fit V1 ∧ RecS 7 encLi V1 y.a y.b y.off y.body ∧ ruleB y = true ∧ Stay w V1 ∧ Stay w0 V1 ∧ SJ V1 (w2.heap.size + 1) y.head.pred (.slice y.head.a y.head.ts.length y.head.cap) (.slice none 0 0) (builtL ms bs y.body 0) (V1.alloc (.cells #[.string y.head.pred, .slice y.head.a y.head.ts.length y.head.cap, .slice none 0 0] 27))) := ⟨hyf, hyR, hys, swV, s0V, hS0⟩
    have HO : Hid (ruleB x = true) := hok
    clear hyf hyR hys swV s0V hS0 hyl hyk s2 S1 sw2 hV1 sV1 hr0 hok
    go_loopw [11] (fun u wr => ∃ (i : Nat) (v : Value), i ≤ y.body.length ∧ u = .int .i64 (i : Int) ∧ SJ V1 (w2.heap.size + 1) y.head.pred (.slice y.head.a y.head.ts.length y.head.cap) v (builtL ms bs y.body i) wr) (fun u _ => y.body.length - (intOf u).toNat)
    case atStart => exact ⟨0, _, Nat.zero_le _, rfl, HF.out.2.2.2.2.2⟩
    case round =>
      obtain ⟨i, v, hi, rfl, hS⟩ := hrel
      have hcw := below_cell hS.2.2 (by show w2.heap.size < _; omega) hc1
      have HS : Hid (SJ V1 (w2.heap.size + 1) y.head.pred (.slice y.head.a y.head.ts.length y.head.cap) v (builtL ms bs y.body i) wr) := hS
      clear hS
      by_cases hlt : i < y.body.length
      · have hki : (i : Int) < (y.body.length : Int) := by omega
        go_upto_region 9 with fail
        go_cut [48] from 30 to 86 (fun vc wx => ∃ c : Bool, vc = .bool c ∧ (c = true ↔ ∃ m, ms[i]? = some m ∧ m.kind = 1) ∧ wx = wr)
        case first =>
          by_cases h1 : i < ms.length
          · obtain ⟨k0, kb⟩ := HM.out i h1
            have k1 := below_cell HS.out.2.2 kb k0
            have hmi : (i : Int) < (ms.length : Int) := by omega
            obtain rfl := HX.out.2.1.1 (by omega)
            have HK : Hid (∀ c : Bool, c = (ms[i].kind == 1) → (c = true ↔ ∃ m, ms[i]? = some m ∧ m.kind = 1)) := fun c hc => by
              rw [List.getElem?_eq_getElem h1, hc]
              simp
            generalize ms[i].kind = kd at *
            go_wp2_with fail
            go_meet
            case rel => exact ⟨_, rfl, HK.out _ rfl, rfl⟩
          · have hmi : ¬ (i : Int) < (ms.length : Int) := by omega
            have HK : Hid (false = true ↔ ∃ m, ms[i]? = some m ∧ m.kind = 1) := by
              show _ ↔ _
              rw [List.getElem?_eq_none (by omega)]
              simp
            go_wp2_with fail
            go_meet
            case rel => exact ⟨_, rfl, HK.out, rfl⟩
        case rest =>
          obtain ⟨c, rfl, hcc, hwc⟩ := hcut
          subst hwc
          go_upto_if 48 with fail
          go_cut [] from 30 to 86 (fun wx => ∃ v, SJ V1 (w2.heap.size + 1) y.head.pred (.slice y.head.a y.head.ts.length y.head.cap) v (builtL ms bs y.body i ++ moreAt ms i) wx)
          case first =>
            cases c
            · have HE : Hid (moreAt ms i = []) := by
                show _ = _
                unfold moreAt
                split
                · rename_i m hm
                  rw [if_neg (fun hk => by have := hcc.2 ⟨m, hm, hk⟩; cases this)]
                · rfl
              clear hcc
              go_wp2_with fail
              go_meet
              case rel => exact ⟨v, by rw [HE.out, List.append_nil]; exact HS.out⟩
            · obtain ⟨m, hm, hk⟩ := hcc.1 rfl
              obtain ⟨h1, h1e⟩ := List.getElem?_eq_some_iff.1 hm
              have HE : Hid (moreAt ms i = [m]) := by
                show _ = _
                unfold moreAt
                rw [hm]
                exact if_pos hk
              have hmi : (i : Int) < (ms.length : Int) := by omega
              obtain rfl := HX.out.2.1.1 (by omega)
              have cc : ∀ q u, (encLi m)[q]? = some u → wc.cell? ⟨mb, mo + i * 7 + q, none⟩ = some u := fun q u hq => below_cell HS.out.2.2 (HM.out i h1).2 (HF.out.2.2.2.1.cell (HX.out.2.1.2 i h1 q u (by rw [h1e]; exact hq)))
              have d0 := cc 0 _ rfl
              have d1 := cc 1 _ rfl
              have d2 := cc 2 _ rfl
              have d3 := cc 3 _ rfl
              have d4 := cc 4 _ rfl
              have d5 := cc 5 _ rfl
              have d6 := cc 6 _ rfl
              rw [Nat.add_zero] at d0
              have sb : wc.cell? ⟨w2.heap.size + 1, 2, none⟩ = some v := by
                have := HS.out.1
                simp [World.cell?, this]
              have sb2 : ∀ o, (wc.alloc o).cell? ⟨w2.heap.size + 1, 2, none⟩ = some v := fun o => (Stay.new wc o).cell sb
              obtain ⟨a1, n1, k1, W2, hap, g1, g2, hS2⟩ := (HS.out.stay (Stay.drew wc)).push m (by have := builtL_len ms bs y.body i; omega) 25
              have HP : Hid (∃ v, SJ V1 (w2.heap.size + 1) y.head.pred (.slice y.head.a y.head.ts.length y.head.cap) v (builtL ms bs y.body i ++ moreAt ms i) (W2.setCell ⟨w2.heap.size + 1, 2, none⟩ (.slice a1 n1 k1))) := ⟨_, by rw [HE.out]; exact hS2⟩
              clear hS2 cc hcc HE hm hk h1e
              obtain ⟨kd, ⟨p, xa, xb, xo, xc, xs⟩, ⟨va1, t1⟩, ⟨va2, t2⟩⟩ := m
              dsimp only [encLi, At.sl] at *
              go_upto_region 10 with fail
              go_region_law (first
                | (refine step_append_run rfl _ _ _ _ rfl (by first | rfl | simp [Act.eval, Act.put]) (by first | rfl | simp [Act.eval, Act.put]) hap ?_; clear hap))
              all_goals
                go_wp2_with fail
                go_meet
                case rel => exact HP.out
          case rest =>
            obtain ⟨v2, hS2⟩ := hcut
            rename World => wd
            have hcd := below_cell hS2.2.2 (by show w2.heap.size < _; omega) hc1
            have hyi : ∀ q u, (encLi y.body[i])[q]? = some u → wd.cell? ⟨y.b, y.off + i * 7 + q, none⟩ = some u := fun q u hq => below_cell hS2.2.2 (by have := World.block_lt_of_cell? V1 _ (HF.out.2.1.2 i hlt q u hq); dsimp only at this ⊢; omega) (HF.out.2.1.2 i hlt q u hq)
            have hya : y.a = some ⟨y.b, y.off, none⟩ := HF.out.2.1.1 (by omega)
            rw [hya] at hcd
            have d0 := hyi 0 _ rfl
            rw [Nat.add_zero] at d0
            have HS2 : Hid (SJ V1 (w2.heap.size + 1) y.head.pred (.slice y.head.a y.head.ts.length y.head.cap) v2 (builtL ms bs y.body i ++ moreAt ms i) wd) := hS2
            have HY : Hid (∀ q u, (encLi y.body[i])[q]? = some u → wd.cell? ⟨y.b, y.off + i * 7 + q, none⟩ = some u) := hyi
            clear hcc hcw hyi hS2 HS hya
            go_upto_region 11 with fail
            go_cut [76] from 30 to 86 (fun vc wx => ∃ c : Bool, vc = .bool c ∧ keepAt bs y.body i = (if c then [] else [y.body[i]]) ∧ wx = wd)
            case first =>
              have HK : Hid (∀ c : Bool, (c = true ↔ bs[i]? = some true ∧ y.body[i].kind ≠ 1) → keepAt bs y.body i = (if c then [] else [y.body[i]])) := fun c hc => by
                unfold keepAt
                rw [List.getElem?_eq_getElem hlt]
                dsimp only
                cases c
                · rw [if_neg (fun h => by have := hc.2 h; cases this)]; rfl
                · rw [if_pos (hc.1 rfl)]; rfl
              by_cases h1 : i < bs.length
              · have hbi : (i : Int) < (bs.length : Int) := by omega
                obtain rfl := HX.out.2.2.2.1 (by omega)
                have hbc := HF.out.2.2.2.1.cell (HX.out.2.2.2.2 i h1)
                have hbw := below_cell HS2.out.2.2 (by have := World.block_lt_of_cell? V1 _ hbc; dsimp only at this ⊢; omega) hbc
                have HB : Hid (bs[i]? = some bs[i]) := List.getElem?_eq_getElem h1
                generalize bs[i] = bv at *
                generalize y.body[i].kind = kd at *
                cases bv
                · go_wp2_with fail
                  go_meet
                  case rel => exact ⟨_, rfl, HK.out _ (by rw [HB.out]; simp), rfl⟩
                · go_wp2_with fail
                  go_meet
                  case rel => exact ⟨_, rfl, HK.out _ (by rw [HB.out]; simp), rfl⟩
              · have hbi : ¬ (i : Int) < (bs.length : Int) := by omega
                have HB : Hid (bs[i]? = none) := List.getElem?_eq_none (by omega)
                go_wp2_with fail
                go_meet
                case rel => exact ⟨_, rfl, HK.out _ (by rw [HB.out]; simp), rfl⟩
            case rest =>
              obtain ⟨c, rfl, hkp, hwd⟩ := hcut
              rename World => we
              subst hwd
              have HB : Hid (builtL ms bs y.body (i + 1) = builtL ms bs y.body i ++ moreAt ms i ++ keepAt bs y.body i) := rfl
              cases c
              · have HE : Hid (keepAt bs y.body i = [y.body[i]]) := hkp
                clear hkp
                have d1 := HY.out 1 _ rfl
                have d2 := HY.out 2 _ rfl
                have d3 := HY.out 3 _ rfl
                have d4 := HY.out 4 _ rfl
                have d5 := HY.out 5 _ rfl
                have d6 := HY.out 6 _ rfl
                have sb : we.cell? ⟨w2.heap.size + 1, 2, none⟩ = some v2 := by
                  have := HS2.out.1
                  simp [World.cell?, this]
                have sb2 : ∀ o, (we.alloc o).cell? ⟨w2.heap.size + 1, 2, none⟩ = some v2 := fun o => (Stay.new we o).cell sb
                have sb3 : ∀ o, (we.alloc o).cell? ⟨w2.heap.size, 2, none⟩ = some (.slice (some ⟨y.b, y.off, none⟩) y.body.length y.cap) := fun o => (Stay.new we o).cell hcd
                obtain ⟨a1, n1, k1, W2, hap, g1, g2, hS3⟩ := (HS2.out.stay (Stay.drew we)).push y.body[i] (by have h1 := builtL_len ms bs y.body i; have h2 := moreAt_len ms i; rw [List.length_append]; omega) 25
                have HP : Hid (SJ V1 (w2.heap.size + 1) y.head.pred (.slice y.head.a y.head.ts.length y.head.cap) (.slice a1 n1 k1) (builtL ms bs y.body (i + 1)) (W2.setCell ⟨w2.heap.size + 1, 2, none⟩ (.slice a1 n1 k1))) := by
                  show SJ _ _ _ _ _ _ _
                  rw [HB.out, HE.out]; exact hS3
                clear hS3 HE HB HY
                generalize y.body[i] = m at *
                obtain ⟨kd, ⟨p, xa, xb, xo, xc, xs⟩, ⟨va1, t1⟩, ⟨va2, t2⟩⟩ := m
                dsimp only [encLi, At.sl] at *
                go_upto_region 12 with fail
                go_region_law (first
                  | (refine step_append_run rfl _ _ _ _ rfl (by first | rfl | simp [Act.eval, Act.put]) (by first | rfl | simp [Act.eval, Act.put]) hap ?_; clear hap))
                all_goals
                  go_wp2_with fail
                  go_roundw
                  case rel => exact ⟨i + 1, _, by omega, by simp, HP.out⟩
                  case measure => simp [intOf]; omega
              · have HP : Hid (SJ V1 (w2.heap.size + 1) y.head.pred (.slice y.head.a y.head.ts.length y.head.cap) v2 (builtL ms bs y.body (i + 1)) we) := by
                  show SJ _ _ _ _ _ _ _
                  rw [HB.out, hkp]; simpa using HS2.out
                clear hkp HB
                go_wp2_with fail
                go_roundw
                case rel => exact ⟨i + 1, _, by omega, by simp, HP.out⟩
                case measure => simp [intOf]; omega
      · obtain rfl : i = y.body.length := by omega
        obtain ⟨hS1, hS2, hS3⟩ := HS.out
        obtain ⟨za, zb, zc, rfl, hzR, -, -, -, -⟩ := hS2.form encLiOk
        have hsz := HF.out.2.2.2.1.size
        have hsz0 := HF.out.2.2.2.2.1.size
        have swr : Stay w wr := HF.out.2.2.2.1.trans (Below.mono hS3 (by omega))
        have s0r : Stay w0 wr := HF.out.2.2.2.2.1.trans (Below.mono hS3 (by omega))
        have hbl2 := builtL_len ms bs y.body y.body.length
        have hzs : ruleB ⟨y.head, za, zb, 0, zc, builtL ms bs y.body y.body.length⟩ = true := built_safe HF.out.2.2.1 rfl rfl
        have hfl : ∀ l ∈ builtL ms bs y.body y.body.length, l.fit wr := fun l hl => by
          rcases builtL_mem _ hl with ⟨h1, -⟩ | h1
          · exact ((HX.out.2.2.1 l h1).stay swr)
          · exact (HF.out.1.lit h1).holds (by omega) hS3
        generalize builtL ms bs y.body y.body.length = bl at *
        have hzf : (⟨y.head, za, zb, 0, zc, bl⟩ : Ru).fit wr := fit_of (HF.out.1.head.holds (by omega) hS3) hzR (by show bl.length ≤ _; omega) hfl
        have hr1 := rule_fit _ wr hzf
        rw [headN_good hzs, hzs] at hr1
        have b0 : wr.cell? ⟨w2.heap.size + 1, 0, none⟩ = some (.string y.head.pred) := by simp [World.cell?, hS1]
        have b1 : wr.cell? ⟨w2.heap.size + 1, 1, none⟩ = some (.slice y.head.a y.head.ts.length y.head.cap) := by simp [World.cell?, hS1]
        have b2 : wr.cell? ⟨w2.heap.size + 1, 2, none⟩ = some (.slice za bl.length zc) := by simp [World.cell?, hS1]
        have hchk : ∀ V, Stay wr V → Calls Try.prog 25 #[.agg #[.slice none 0 0, .slice none 0 0, .slice (some ⟨V.heap.size, 0, none⟩) 3 3]] (V.alloc (.cells #[.string y.head.pred, .slice y.head.a y.head.ts.length y.head.cap, .slice za bl.length zc, .string x.head.pred, .slice x.head.a x.head.ts.length x.head.cap, .slice x.a x.body.length x.cap, .string y.head.pred, .slice y.head.a y.head.ts.length y.head.cap, .slice za bl.length zc] 27)) fun e w' => e = .returned (.tuple #[.int .i64 0, .string ⟨#[]⟩, .int .i64 0]) ∧ Stay wr w' := fun V hV => by
          have hV2 := hV.alloc (.cells #[.string y.head.pred, .slice y.head.a y.head.ts.length y.head.cap, .slice za bl.length zc, .string x.head.pred, .slice x.head.a x.head.ts.length x.head.cap, .slice x.a x.body.length x.cap, .string y.head.pred, .slice y.head.a y.head.ts.length y.head.cap, .slice za bl.length zc] 27)
          have hrs : ∀ r ∈ [(⟨y.head, za, zb, 0, zc, bl⟩ : Ru), x, ⟨y.head, za, zb, 0, zc, bl⟩], r.fit wr ∧ ruleB r = true := by
            intro r hr
            simp only [List.mem_cons, List.not_mem_nil, or_false] at hr
            rcases hr with rfl | rfl | rfl
            · exact ⟨hzf, hzs⟩
            · exact ⟨HX.out.1.stay swr, HO.out⟩
            · exact ⟨hzf, hzs⟩
          have hl := recs_lit encRuOk V [(⟨y.head, za, zb, 0, zc, bl⟩ : Ru), x, ⟨y.head, za, zb, 0, zc, bl⟩] 27
          have hc := check_any ⟨none, 0, 0, 0, [], none, 0, 0, 0, [], some ⟨V.heap.size, 0, none⟩, V.heap.size, 0, 3, [(⟨y.head, za, zb, 0, zc, bl⟩ : Ru), x, ⟨y.head, za, zb, 0, zc, bl⟩]⟩ _ ⟨hl, fun r hr => ((hrs r hr).1.stay hV2).ins⟩ (fun r hr => (hrs r hr).1.stay hV2) (by show 3 ≤ 1048576; omega)
          unfold checkV at hc
          rw [checkF_good 0 _ fun r hr => (hrs r hr).2] at hc
          exact hc.mono fun e w' h => ⟨h.1, hV2.trans h.2⟩
        have HB : Hid (Stay w wr) := swr
        have HC2 : Hid (∀ V, Stay wr V → (V.cell? ⟨w2.heap.size + 1, 0, none⟩ = some (.string y.head.pred) ∧ V.cell? ⟨w2.heap.size + 1, 1, none⟩ = some (.slice y.head.a y.head.ts.length y.head.cap) ∧ V.cell? ⟨w2.heap.size + 1, 2, none⟩ = some (.slice za bl.length zc)) ∧ V.cell? ⟨w.heap.size, 0, none⟩ = some (.string x.head.pred) ∧ V.cell? ⟨w.heap.size, 1, none⟩ = some (.slice x.head.a x.head.ts.length x.head.cap) ∧ V.cell? ⟨w.heap.size, 2, none⟩ = some (.slice x.a x.body.length x.cap)) := fun V hV => ⟨⟨hV.cell b0, hV.cell b1, hV.cell b2⟩, HC.out V (s0r.trans hV)⟩
        dsimp only [Ru.v, At.sl] at hr1
        clear hS1 hS2 hS3 hzR hfl hzf hzs swr s0r hsz hsz0 HS HM hbl2
        go_wp2_with (first | (go_at_call 12; refine hr1.mono ?_; rintro e w3 ⟨rfl, s3⟩; obtain ⟨⟨k0, k1, k2⟩, k3, k4, k5⟩ := HC2.out w3 s3; have hck := hchk w3 s3; clear hchk s3) | (go_at_call 25; refine hck.mono ?_; rintro e w4 ⟨rfl, s4⟩) | (go_at_call 22; refine (hkn _).mono ?_; rintro e w5 ⟨rfl, s5⟩))
        go_ret
        exact ⟨rfl, (HB.out.trans s4).trans s5⟩
end Go.Proofs.Ytnmeljenldadfaa
