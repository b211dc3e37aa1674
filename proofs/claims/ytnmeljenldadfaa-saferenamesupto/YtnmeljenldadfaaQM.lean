/- The first rule that is not safe: Check. -/
import Derived.Test.YtnmeljenldadfaaQL
import Derived.Test.YtnmeljenldadfaaBB
namespace Go.Proofs.Ytnmeljenldadfaa
open Go.RowKit Go.Maps Go.Shelf

/-- A rule that all calls of the layer can take. -/
structure Ru.fit (x : Ru) (w : World) : Prop where
  ins : x.In w
  small : x.small
  reads : x.reads (fun i => i < w.heap.size)
  shorts : x.shorts
theorem Ru.fit.stay {x : Ru} {w w' : World} (h : x.fit w) (hs : Stay w w') : x.fit w' := ⟨Ru.stay h.ins hs, h.small, h.reads.mono fun _ hi => Nat.lt_of_lt_of_le hi hs.size, h.shorts⟩
theorem rule_fit (x : Ru) (w : World) (h : x.fit w) : Calls Try.prog 12 #[x.v] w fun e w' => e = .returned (.tuple #[.string (ruleN x), .bool (ruleB x)]) ∧ Stay w w' := rule_any x w h.ins h.small h.reads h.shorts

/-- What Check tells. -/
def checkF : Nat → List Ru → Int × ByteArray × Int
  | _, [] => (0, ⟨#[]⟩, 0)
  | i, r :: rs => if ruleB r then checkF (i + 1) rs else ((i : Int), ruleN r, 14)
def checkV (rs : List Ru) : Value := .tuple #[.int .i64 (checkF 0 rs).1, .string (checkF 0 rs).2.1, .int .i64 (checkF 0 rs).2.2]
theorem checkF_good : ∀ (i : Nat) (rs : List Ru), (∀ r ∈ rs, ruleB r = true) → checkF i rs = (0, ⟨#[]⟩, 0)
  | _, [], _ => rfl
  | i, r :: rs, h => by rw [checkF, h r List.mem_cons_self, if_pos rfl, checkF_good (i + 1) rs fun x hx => h x (List.mem_cons_of_mem _ hx)]

set_option maxRecDepth 100000 in
set_option maxHeartbeats 1000000 in
theorem check_any (x : Pr) (w : World) (hM : LsR w x.ra x.rb x.ro x.rules) (hf : ∀ r ∈ x.rules, r.fit w) (hn : x.rules.length ≤ 1048576) : Calls Try.prog 25 #[x.v] w fun e w' => e = .returned (checkV x.rules) ∧ Stay w w' := by
  obtain ⟨ia, ib, io, ic, ins, oa, ob, oo, oc, outs, ra, rb, ro, rc, rules⟩ := x
  dsimp only [Pr.v] at *
  obtain ⟨rv, hrv⟩ : ∃ rv, rv = checkV rules := ⟨_, rfl⟩
  rw [← hrv]
  have HR : Hid (rv = checkV rules) := hrv
  have hs0 : Stay w (w.alloc (.cells #[.slice ia ins.length ic, .slice oa outs.length oc, .slice ra rules.length rc] 43)) := Stay.new w _
  have HS : Hid (Stay w (w.alloc (.cells #[.slice ia ins.length ic, .slice oa outs.length oc, .slice ra rules.length rc] 43))) := hs0
  clear hs0 hrv
  have HM : Hid (LsR w ra rb ro rules ∧ ∀ r ∈ rules, r.fit w) := ⟨hM, hf⟩
  clear hM hf
  go_enter Try.func25, Try.ntmps25
  go_wp2
  go_loopw [12] (fun u wr => ∃ i : Nat, i ≤ rules.length ∧ u = .int .i64 (i : Int) ∧ checkF 0 rules = checkF i (rules.drop i) ∧ Stay w wr) (fun u _ => rules.length - (intOf u).toNat)
  case atStart => exact ⟨0, Nat.zero_le _, rfl, by simp, HS.out⟩
  case round =>
    obtain ⟨i, hi, rfl, hck, hst⟩ := hrel
    by_cases hlt : i < rules.length
    · have hki : (i : Int) < (rules.length : Int) := by omega
      obtain ⟨⟨h0, hc⟩, hin⟩ := HM.out.1
      obtain rfl := h0 (by omega)
      have c0 := hst.cell (hc i hlt 0 _ rfl)
      have c1 := hst.cell (hc i hlt 1 _ rfl)
      have c2 := hst.cell (hc i hlt 2 _ rfl)
      dsimp only [At.sl] at c1
      rw [Nat.add_zero] at c0
      have hru := fun W (hW : Stay wr W) => rule_fit rules[i] W ((HM.out.2 _ (List.getElem_mem hlt)).stay (hst.trans hW))
      rw [List.drop_eq_getElem_cons hlt, checkF] at hck
      have HC : Hid (checkF 0 rules = if ruleB rules[i] then checkF (i + 1) (rules.drop (i + 1)) else ((i : Int), ruleN rules[i], 14)) := hck
      have HW : Hid (Stay w wr) := hst
      clear hck hc h0 hin HM hst
      generalize rules[i] = r at *
      obtain ⟨⟨hp, ha, hb, ho, hcp, hts⟩, ba, bb, bo, bc, bls⟩ := r
      dsimp only [Ru.v, At.sl] at *
      generalize ruleN ⟨⟨hp, ha, hb, ho, hcp, hts⟩, ba, bb, bo, bc, bls⟩ = nm at *
      generalize ruleB ⟨⟨hp, ha, hb, ho, hcp, hts⟩, ba, bb, bo, bc, bls⟩ = ok at *
      have hr := hru _ (Stay.new wr (.cells #[.string hp, .slice ha hts.length hcp, .slice ba bls.length bc] 27))
      have HN : Hid (Stay wr (wr.alloc (.cells #[.string hp, .slice ha hts.length hcp, .slice ba bls.length bc] 27))) := Stay.new _ _
      clear hru
      cases ok
      · go_wp2_with (go_at_call 12; refine hr.mono ?_; rintro e w' ⟨rfl, hs1⟩)
        refine bodyPost_ret (results_tmp3 rfl _ _ _) rfl ⟨?_, HW.out.trans (HN.out.trans hs1)⟩
        have hc := HC.out
        rw [if_neg (by simp)] at hc
        rw [HR.out, checkV, hc]
        rfl
      · go_wp2_with (go_at_call 12; refine hr.mono ?_; rintro e w' ⟨rfl, hs1⟩)
        refine ⟨⟨i + 1, by omega, by simp, ?_, HW.out.trans (HN.out.trans hs1)⟩, by simp [intOf]; omega⟩
        exact HC.out.trans (by simp)
    · obtain rfl : i = rules.length := by omega
      have HW : Hid (Stay w wr ∧ checkF 0 rules = (0, ⟨#[]⟩, 0)) := ⟨hst, by rw [hck]; simp [checkF]⟩
      clear hck hst HM
      go_wp2
      refine bodyPost_ret (results_tmp3 rfl _ _ _) rfl ⟨?_, HW.out.1⟩
      rw [HR.out, checkV, HW.out.2]
      rfl
end Go.Proofs.Ytnmeljenldadfaa
