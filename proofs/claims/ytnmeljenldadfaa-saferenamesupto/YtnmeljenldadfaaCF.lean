/- Terms, atoms, literals held against their like: SameTerms, SameAtom, SameLiteral, SameBody. -/
import Derived.Test.YtnmeljenldadfaaCE
namespace Go.Proofs.Ytnmeljenldadfaa
open Go.RowKit Go.Maps

theorem neqTm (x1 : Bool) (x2 : ByteArray) (w : World) : (binOp .neq 51 (.agg #[.bool x1, .string x2]) (.agg #[.bool x1, .string x2])).run Try.prog w = .ok (.bool false) w := by
  have u3 := Try.underlying4
  have a3 := Try.isAgg4
  have z3 := Try.sizeOf4
  have u9 := Try.underlying9
  have a9 := Try.isAgg9
  have z9 := Try.sizeOf9
  rw [run_neq_struct, show (10000 : Nat) = 9999 + 1 from rfl, run_equalIn_agg w 9999 51 _ _ fieldsTm heldTm]
  simp only [Program.fieldsOf, Try.underlying51]
  go_simp
theorem eqlTm_yes (x1 : Bool) (x2 : ByteArray) (w : World) : (binOp .eql 51 (.agg #[.bool x1, .string x2]) (.agg #[.bool x1, .string x2])).run Try.prog w = .ok (.bool true) w := by
  rw [eqlTm]; simp
set_option maxRecDepth 100000 in
set_option maxHeartbeats 2000000 in
theorem sameTerms_yes (w : World) (a1 a2 : Option Addr) (b1 b2 o1 o2 c1 c2 : Nat) (ts : List Tm) (h1 : TmsS w a1 b1 o1 ts) (h2 : TmsS w a2 b2 o2 ts) (hn : ts.length ≤ 140737488355328) :
    Calls Try.prog 65 #[.slice a1 ts.length c1, .slice a2 ts.length c2] w fun e w' => e = .returned (.bool true) ∧ Stay w w' := by
  have HH : Hid (TmsS w a1 b1 o1 ts ∧ TmsS w a2 b2 o2 ts) := ⟨h1, h2⟩
  have HA1 : Hid (0 < ts.length → a1 = some ⟨b1, o1, none⟩) := h1.1
  have HA2 : Hid (0 < ts.length → a2 = some ⟨b2, o2, none⟩) := h2.1
  clear h1 h2
  generalize hm : ts.length = n at *
  have HN : Hid (ts.length = n) := hm
  clear hm
  have hnn : ((n : Int) != (n : Int)) = false := by simp
  go_enter Try.func65, Try.ntmps65
  go_wp2
  go_loopw [5] (fun i wr => Stay w wr ∧ ∃ k : Nat, k ≤ n ∧ i = .int .i64 (k : Int)) (fun i _ => n - (intOf i).toNat)
  case atStart => exact ⟨Stay.refl _, 0, Nat.zero_le _, rfl⟩
  case round =>
    obtain ⟨hst, k, hk, rfl⟩ := hrel
    by_cases hlt : k < n
    · have hkt : k < ts.length := by rw [HN.out]; exact hlt
      have hki : (k : Int) < (n : Int) := by omega
      obtain rfl := HA1.out (by omega)
      obtain rfl := HA2.out (by omega)
      obtain ⟨c0, d0⟩ := (HH.out.1.stay hst).2 k hkt
      obtain ⟨e0, f0⟩ := (HH.out.2.stay hst).2 k hkt
      generalize ts[k] = t at *
      obtain ⟨va, s⟩ := t
      dsimp only at c0 d0 e0 f0
      have hq := neqTm va s
      have HS : Hid (Stay w wr) := hst
      clear hst
      go_wp2_with fail
      go_region
      go_wp2_with fail
      go_roundw
      case rel => exact ⟨Below.drew HS.out, k + 1, by omega, by simp⟩
      case measure => simp [intOf]; omega
    · obtain rfl : k = n := by omega
      have hge : ¬ (k : Int) < (k : Int) := by omega
      have HS : Hid (Stay w wr) := hst
      clear hst
      go_wp2
      go_ret
      exact ⟨rfl, HS.out⟩
set_option maxRecDepth 100000 in
theorem sameAtom_yes (w : World) (x y : At) (h : x.like y) (h1 : x.In w) (h2 : y.In w) (hn : y.ts.length ≤ 140737488355328) :
    Calls Try.prog 62 #[x.v, y.v] w fun e w' => e = .returned (.bool true) ∧ Stay w w' := by
  obtain ⟨p, a1, b1, o1, c1, ts⟩ := x
  obtain ⟨q, a2, b2, o2, c2, us⟩ := y
  obtain rfl : p = q := h.1
  obtain rfl : ts = us := h.2
  unfold At.v At.sl
  dsimp only at *
  have hs0 : Stay w ((w.alloc (.cells #[.string p, .slice a1 ts.length c1] 24)).alloc (.cells #[.string p, .slice a2 ts.length c2] 24)) := (Stay.new w _).trans (Stay.new _ _)
  have hss := sameTerms_yes _ a1 a2 b1 b2 o1 o2 c1 c2 ts (TmsS.stay h1 hs0) (TmsS.stay h2 hs0) hn
  have HS : Hid (Stay w ((w.alloc (.cells #[.string p, .slice a1 ts.length c1] 24)).alloc (.cells #[.string p, .slice a2 ts.length c2] 24))) := hs0
  have hpp : (p.toList == p.toList) = true := by simp
  clear h h1 h2 hs0
  generalize ts.length = n at *
  go_enter Try.func62, Try.ntmps62
  go_wp2_with (first | (go_at_call 65; refine hss.mono ?_; rintro e W1 ⟨rfl, hs1⟩))
  go_ret
  exact ⟨rfl, HS.out.trans hs1⟩
set_option maxRecDepth 100000 in
theorem sameLiteral_yes (w : World) (x y : Li) (h : x.like y) (h1 : x.atom.In w) (h2 : y.atom.In w) (hn : y.atom.ts.length ≤ 140737488355328) :
    Calls Try.prog 66 #[x.v, y.v] w fun e w' => e = .returned (.bool true) ∧ Stay w w' := by
  obtain ⟨k, ⟨p, a1, b1, o1, c1, ts⟩, l, r⟩ := x
  obtain ⟨k', ⟨q, a2, b2, o2, c2, us⟩, l', r'⟩ := y
  obtain rfl : k = k' := h.1
  obtain rfl : p = q := h.2.1.1
  obtain rfl : ts = us := h.2.1.2
  obtain rfl : l = l' := h.2.2.1
  obtain rfl : r = r' := h.2.2.2
  obtain ⟨va1, s1⟩ := l
  obtain ⟨va2, s2⟩ := r
  have hs0 : Stay w ((w.alloc (.cells #[.int .i64 k, .string p, .slice a1 ts.length c1, .bool va1, .string s1, .bool va2, .string s2] 53)).alloc (.cells #[.int .i64 k, .string p, .slice a2 ts.length c2, .bool va1, .string s1, .bool va2, .string s2] 53)) := (Stay.new w _).trans (Stay.new _ _)
  have hss := sameAtom_yes _ ⟨p, a1, b1, o1, c1, ts⟩ ⟨p, a2, b2, o2, c2, ts⟩ ⟨rfl, rfl⟩ (TmsS.stay h1 hs0) (TmsS.stay h2 hs0) hn
  unfold Li.v
  unfold At.v At.sl at *
  dsimp only at *
  have HS : Hid (Stay w ((w.alloc (.cells #[.int .i64 k, .string p, .slice a1 ts.length c1, .bool va1, .string s1, .bool va2, .string s2] 53)).alloc (.cells #[.int .i64 k, .string p, .slice a2 ts.length c2, .bool va1, .string s1, .bool va2, .string s2] 53))) := hs0
  have HC : Hid (∀ W, Stay ((w.alloc (.cells #[.int .i64 k, .string p, .slice a1 ts.length c1, .bool va1, .string s1, .bool va2, .string s2] 53)).alloc (.cells #[.int .i64 k, .string p, .slice a2 ts.length c2, .bool va1, .string s1, .bool va2, .string s2] 53)) W →
      W.cell? ⟨w.heap.size, 3, none⟩ = some (.bool va1) ∧ W.cell? ⟨w.heap.size, 4, none⟩ = some (.string s1) ∧ W.cell? ⟨w.heap.size, 5, none⟩ = some (.bool va2) ∧ W.cell? ⟨w.heap.size, 6, none⟩ = some (.string s2) ∧ W.cell? ⟨w.heap.size + 1, 3, none⟩ = some (.bool va1) ∧ W.cell? ⟨w.heap.size + 1, 4, none⟩ = some (.string s1) ∧ W.cell? ⟨w.heap.size + 1, 5, none⟩ = some (.bool va2) ∧ W.cell? ⟨w.heap.size + 1, 6, none⟩ = some (.string s2)) := fun W hW =>
    ⟨hW.cell (by simp), hW.cell (by simp), hW.cell (by simp), hW.cell (by simp), hW.cell (by simp), hW.cell (by simp), hW.cell (by simp), hW.cell (by simp)⟩
  have e1 := fun W => eqlTm_yes va1 s1 W
  have e2 := fun W => eqlTm_yes va2 s2 W
  have hkk : (k == k) = true := by simp
  clear h h1 h2 hs0
  generalize ts.length = n at *
  go_enter Try.func66, Try.ntmps66
  go_wp2_with (first | (go_at_call 62; refine hss.mono ?_; rintro e W1 ⟨rfl, hs1⟩; obtain ⟨d0, d1, d2, d3, d4, d5, d6, d7⟩ := HC.out W1 hs1))
  go_ret
  exact ⟨rfl, HS.out.trans hs1⟩
end Go.Proofs.Ytnmeljenldadfaa
