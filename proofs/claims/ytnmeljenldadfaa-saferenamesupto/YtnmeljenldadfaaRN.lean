/- Variables renamed one to one, plainly: what stands where, what binds, what is loose, and the way. No walk here. Terms renamed: mapped; lists of numbers held against one another: sameInts. A rule renamed: what lies in memory meanwhile. No walk here. -/
import Derived.Test.YtnmeljenldadfaaEZ
import Derived.Test.YtnmeljenldadfaaEO
import Derived.Test.YtnmeljenldadfaaEF
import Derived.Test.YtnmeljenldadfaaED
import Derived.Test.YtnmeljenldadfaaER
import Derived.Test.YtnmeljenldadfaaEB
import Derived.Test.YtnmeljenldadfaaQP
namespace Go.Proofs.Ytnmeljenldadfaa
open Go.RowKit Go.Maps Go.Shelf

/-- A term with a text behind its name, if it is a variable. -/
def Tm.ren (m : ByteArray) (t : Tm) : Tm := ⟨t.var, if t.var = true then t.text ++ m else t.text⟩
def rnP (m : ByteArray) (p : Int × ByteArray) : Int × ByteArray := (p.1, p.2 ++ m)
theorem app_inj {a b m : ByteArray} (h : a ++ m = b ++ m) : a = b := by
  have h1 := congrArg (fun x : ByteArray => x.data.toList) h
  rw [ByteArray.data_append, ByteArray.data_append, Array.toList_append, Array.toList_append] at h1
  exact ByteArray.ext (Array.ext' (List.append_cancel_right h1))
theorem inB_ren (m : ByteArray) (us : List ByteArray) (s : ByteArray) : inB (us.map (· ++ m)) (s ++ m) = inB us s := by
  rw [Bool.eq_iff_iff, inB_iff, inB_iff, List.mem_map]
  exact ⟨fun ⟨a, ha, e⟩ => app_inj e ▸ ha, fun h => ⟨s, h, rfl⟩⟩
theorem varsT_ren (m : ByteArray) : ∀ ts : List Tm, varsT (ts.map (Tm.ren m)) = (varsT ts).map (· ++ m)
  | [] => rfl
  | t :: ts => by
    have ih := varsT_ren m ts
    unfold varsT at *
    obtain ⟨v, x⟩ := t
    cases v
    · simpa [Tm.ren] using ih
    · simpa [Tm.ren] using ih
/-- One literal is the other, renamed. -/
def Li.renOf (m : ByteArray) (y x : Li) : Prop := y.kind = x.kind ∧ y.atom.ts = x.atom.ts.map (Tm.ren m) ∧ y.left = x.left.ren m ∧ y.right = x.right.ren m
def rens (m : ByteArray) (cs ls : List Li) : Prop := cs.length = ls.length ∧ ∀ j (h1 : j < cs.length) (h2 : j < ls.length), (cs[j]).renOf m ls[j]
def Ru.renOf (m : ByteArray) (y x : Ru) : Prop := y.head.ts = x.head.ts.map (Tm.ren m) ∧ rens m y.body x.body
theorem rens_nil {m : ByteArray} : rens m [] [] := ⟨rfl, fun _ h => absurd h (Nat.not_lt_zero _)⟩
theorem rens_snoc {m : ByteArray} {cs ls : List Li} {y x : Li} (h : rens m cs ls) (hy : y.renOf m x) : rens m (cs ++ [y]) (ls ++ [x]) := by
  refine ⟨by simp [h.1], fun j h1 h2 => ?_⟩
  by_cases hj : j < cs.length
  · rw [List.getElem_append_left hj, List.getElem_append_left (by rw [← h.1]; exact hj)]
    exact h.2 j hj _
  · have e1 : j = cs.length := by simp at h1; omega
    have e2 : j = ls.length := by rw [← h.1]; exact e1
    rw [List.getElem_append_right (by omega), List.getElem_append_right (by omega)]
    simpa using hy
theorem rens_cons {m : ByteArray} {a b : Li} {us vs : List Li} (h : rens m (a :: us) (b :: vs)) : a.renOf m b ∧ rens m us vs :=
  ⟨h.2 0 (by simp) (by simp), by have := h.1; simpa using this, fun j h1 h2 => by have := h.2 (j + 1) (by simpa using h1) (by simpa using h2); simpa using this⟩
theorem terms_ren {m : ByteArray} {y x : Li} (h : y.renOf m x) : y.terms = x.terms.map (Tm.ren m) := by
  unfold Li.terms
  rw [h.1, h.2.1, h.2.2.1, h.2.2.2]
  split
  · rfl
  · split <;> rfl
theorem placesB_ren {m : ByteArray} : ∀ (k : Nat) (us vs : List Li), rens m us vs → placesB k us = (placesB k vs).map (rnP m)
  | _, [], [], _ => rfl
  | _, [], b :: vs, h => by have := h.1; simp at this
  | _, a :: us, [], h => by have := h.1; simp at this
  | k, a :: us, b :: vs, h => by
    obtain ⟨h1, h2⟩ := rens_cons h
    rw [placesB, placesB, terms_ren h1, placesB_ren (k + 1) us vs h2, varsT_ren, List.map_append, List.map_map, List.map_map]
    rfl
theorem kinds_ren {m : ByteArray} {us vs : List Li} (h : rens m us vs) (i : Nat) : (us[i]?.map (·.kind)) = (vs[i]?.map (·.kind)) := by
  by_cases h1 : i < us.length
  · have h2 : i < vs.length := by rw [← h.1]; exact h1
    rw [List.getElem?_eq_getElem h1, List.getElem?_eq_getElem h2]
    exact congrArg some (h.2 i h1 h2).1
  · rw [List.getElem?_eq_none (by omega), List.getElem?_eq_none (by have := h.1; omega)]
theorem bindC_ren {m : ByteArray} {us vs : List Li} (h : rens m us vs) (p : Int × ByteArray) : bindC us [] (rnP m p) = bindC vs [] p := by
  have hk := kinds_ren h p.1.toNat
  unfold bindC rnP
  dsimp only
  cases h1 : us[p.1.toNat]? <;> cases h2 : vs[p.1.toNat]? <;> simp_all
theorem bindP_ren {m : ByteArray} {us vs : List Li} (h : rens m us vs) : bindP us = (bindP vs).map (rnP m) := by
  rw [bindP_eq, bindP_eq, placesB_ren 0 us vs h, List.filter_map]
  congr 2
  funext p
  exact bindC_ren h p
theorem placesR_ren {m : ByteArray} {y x : Ru} (h : y.renOf m x) : placesR y = (placesR x).map (rnP m) := by
  unfold placesR
  rw [h.1, placesB_ren 0 _ _ h.2, varsT_ren, List.map_append, List.map_map, List.map_map]
  rfl
theorem namesP_ren (m : ByteArray) (ps : List (Int × ByteArray)) : namesP (ps.map (rnP m)) = (namesP ps).map (· ++ m) := by
  unfold namesP
  rw [List.map_map, List.map_map]
  rfl
theorem newF_ren (m : ByteArray) : ∀ (pre xs : List (Int × ByteArray)), selF newC (pre.map (rnP m)) (xs.map (rnP m)) = (selF newC pre xs).map (rnP m)
  | _, [] => rfl
  | pre, x :: xs => by
    have ih := newF_ren m (pre ++ [x]) xs
    rw [List.map_append, List.map_singleton] at ih
    have hc : newC (pre.map (rnP m)) (rnP m x) = newC pre x := by
      unfold newC
      have h1 := namesP_ren m pre
      unfold namesP at h1
      rw [h1]
      exact congrArg (!·) (inB_ren m _ x.2)
    rw [List.map_cons, selF, selF, ih, hc, List.map_append]
    split <;> simp
theorem new_ren (m : ByteArray) (xs : List (Int × ByteArray)) : sel newC (xs.map (rnP m)) = (sel newC xs).map (rnP m) := newF_ren m [] xs
theorem onceN_ren (m : ByteArray) (ps : List (Int × ByteArray)) : onceN (ps.map (rnP m)) = (onceN ps).map (· ++ m) := by
  unfold onceN
  rw [new_ren, namesP_ren]
theorem firstAt_ren (m : ByteArray) : ∀ (ps : List (Int × ByteArray)) (s : ByteArray), firstAt (ps.map (rnP m)) (s ++ m) = firstAt ps s
  | [], _ => rfl
  | p :: ps, s => by
    rw [List.map_cons, firstAt, firstAt, firstAt_ren m ps s]
    by_cases h : p.2 = s
    · rw [if_pos (show (rnP m p).2 = s ++ m from by rw [← h]; rfl), if_pos h]
      rfl
    · rw [if_neg (show ¬ (rnP m p).2 = s ++ m from fun e => h (app_inj (m := m) e)), if_neg h]
theorem waits_ren (m : ByteArray) (bs : List (Int × ByteArray)) (i : Int) {y x : Li} (h : y.renOf m x) : waits (bs.map (rnP m)) i y = waits bs i x := by
  unfold waits waitsS
  rw [terms_ren h, varsT_ren, List.any_map]
  congr 1
  funext s
  simp only [Function.comp_apply, firstAt_ren]
theorem lastS_ren (m : ByteArray) (bs : List (Int × ByteArray)) (ss : List ByteArray) : lastS (bs.map (rnP m)) (ss.map (· ++ m)) = lastS bs ss := by
  unfold lastS
  rw [List.foldl_map]
  congr 1
  funext a s
  rw [firstAt_ren]
theorem takeS_ren (m : ByteArray) (bs : List (Int × ByteArray)) (i : Int) {y x : Li} (h : y.renOf m x) (s : List Int × (Int → List Int)) : takeS (bs.map (rnP m)) i y s = takeS bs i x s := by
  unfold takeS
  rw [waits_ren m bs i h, terms_ren h, varsT_ren, lastS_ren, show ofThree y = ofThree x from by unfold ofThree; rw [h.1]]
theorem takeN_ren {m : ByteArray} {us vs : List Li} (h : rens m us vs) (bs : List (Int × ByteArray)) : ∀ k, takeN (bs.map (rnP m)) us k = takeN bs vs k
  | 0 => rfl
  | k + 1 => by
    rw [takeN, takeN, takeN_ren h bs k]
    by_cases h1 : k < us.length
    · have h2 : k < vs.length := by rw [← h.1]; exact h1
      rw [List.getElem?_eq_getElem h1, List.getElem?_eq_getElem h2]
      exact takeS_ren m bs _ (h.2 k h1 h2) _
    · rw [List.getElem?_eq_none (by omega), List.getElem?_eq_none (by have := h.1; omega)]
theorem allIn_ren (m : ByteArray) (bs ps : List (Int × ByteArray)) : allIn (bs.map (rnP m)) (ps.map (rnP m)) = allIn bs ps := by
  unfold allIn
  rw [List.all_map, namesP_ren]
  congr 1
  funext p
  exact inB_ren m _ p.2
theorem wayOkB_ren {m : ByteArray} {us vs : List Li} (h : rens m us vs) : wayOkB us = wayOkB vs := by
  unfold wayOkB
  rw [bindP_ren h, placesB_ren 0 us vs h, allIn_ren]
theorem looseP_ren {m : ByteArray} {y x : Ru} (h : y.renOf m x) : looseP y = (looseP x).map (rnP m) := by
  rw [looseP_eq, looseP_eq, placesR_ren h, bindP_ren h.2, new_ren, List.filter_map, namesP_ren]
  congr 2
  funext p
  exact congrArg (!·) (inB_ren m _ p.2)
theorem ruleB_ren {m : ByteArray} {y x : Ru} (h : y.renOf m x) : ruleB y = ruleB x := by
  unfold ruleB
  rw [looseP_ren h]
  cases looseP x <;> rfl
theorem ruleN_ren {m : ByteArray} {y x : Ru} (h : y.renOf m x) (hb : ruleB x = false) : ruleN y = ruleN x ++ m := by
  unfold ruleB at hb
  unfold ruleN
  rw [looseP_ren h]
  cases hl : looseP x with
  | nil => rw [hl] at hb; cases hb
  | cons p ps => rfl
end Go.Proofs.Ytnmeljenldadfaa
namespace Go.Proofs.Ytnmeljenldadfaa
open Go.RowKit Go.Maps Go.Shelf

set_option maxRecDepth 100000 in
set_option maxHeartbeats 2000000 in
theorem mapped_any (ts : List Tm) (a : Option Addr) (b off cap : Nat) (m : ByteArray) (w : World) (h : RecS 2 encTm w a b off ts) (hn : ts.length ≤ 1048576) (hs : ∀ t ∈ ts, t.text.size ≤ 1048576) (hm : m.size ≤ 1048576) :
    Calls Try.prog 52 #[.slice a ts.length cap, .string m] w (NewR 51 2 encTm w (ts.map (Tm.ren m))) := by
  have HP : Hid (RecS 2 encTm w a b off ts ∧ ∀ t ∈ ts, t.text.size ≤ 1048576) := ⟨h, hs⟩
  obtain ⟨R, hR⟩ : ∃ R, R = NewR 51 2 encTm w (ts.map (Tm.ren m)) := ⟨_, rfl⟩
  rw [← hR]
  have HR : Hid (R = NewR 51 2 encTm w (ts.map (Tm.ren m))) := hR
  clear h hR hs
  go_enter Try.func52, Try.ntmps52
  go_wp2
  go_loopw [5, 6] (fun vv u wr => ∃ (j : Nat) (v0 : Value), v0 = vv ∧ j ≤ ts.length ∧ u = .int .i64 (j : Int) ∧ OwnR 51 2 encTm w.heap.size wr v0 ((ts.take j).map (Tm.ren m)) ∧ Stay w wr) (fun _ u _ => ts.length - (intOf u).toNat)
  case atStart => exact ⟨0, _, rfl, Nat.zero_le _, rfl, OwnR.nil, Stay.refl _⟩
  case round =>
    obtain ⟨j, v0, rfl, hj, rfl, hO, hS⟩ := hrel
    by_cases hlt : j < ts.length
    · have hki : (j : Int) < (ts.length : Int) := by omega
      obtain rfl := HP.out.1.1 (by omega)
      have d0 := hS.cell (HP.out.1.2 j hlt 0 _ rfl)
      have d1 := hS.cell (HP.out.1.2 j hlt 1 _ rfl)
      rw [Nat.add_zero] at d0
      have hts := HP.out.2 _ (List.getElem_mem hlt)
      have HT : Hid ((ts.take (j + 1)).map (Tm.ren m) = (ts.take j).map (Tm.ren m) ++ [ts[j].ren m]) := by show _ = _; rw [List.take_add_one, List.getElem?_eq_getElem hlt, Option.toList_some, List.map_append, List.map_singleton]
      generalize ts[j] = t at *
      obtain ⟨tv, tt⟩ := t
      dsimp only at d0 d1 hts
      have hsum : ¬ 9223372036854775807 < tt.size + m.size := by omega
      have hl0 : ((ts.take j).map (Tm.ren m)).length = j := by rw [List.length_map, List.length_take]; omega
      have HO : Hid (OwnR 51 2 encTm w.heap.size wr v0 ((ts.take j).map (Tm.ren m)) ∧ Stay w wr) := ⟨hO, hS⟩
      clear hO hS
      cases tv
      · obtain ⟨a1, k1, w2, hap, hO2, hB2, -⟩ := own_push encTmOk Try.underlying22 infoTm rfl (HO.out.1.alloc (.cells #[.bool false, .string tt] 51)) ⟨false, tt⟩ (by rw [hl0]; unfold maxLen; omega) (by rw [hl0]; omega) (by rw [World.size_alloc]; have := HO.out.2.size; omega) 22
        have HN : Hid (OwnR 51 2 encTm w.heap.size w2 (.slice a1 (((ts.take j).map (Tm.ren m)).length + 1) k1) ((ts.take (j + 1)).map (Tm.ren m)) ∧ Stay w w2) := ⟨by rw [HT.out]; exact hO2, Below.trans (HO.out.2.alloc _) hB2⟩
        dsimp only [encTm] at hap
        rw [World.size_alloc] at hap
        clear hO2 hB2
        generalize ((ts.take j).map (Tm.ren m)).length + 1 = q at *
        clear hl0
        go_wp2_with (at_builtin; refine wpList_append_run rfl (.tmp 25) (.tmp 27) 22 22 rfl _ _ rfl rfl hap ?_; clear hap)
        go_roundw
        case rel => exact ⟨j + 1, _, rfl, by omega, by simp, HN.out⟩
        case measure => simp [intOf]; omega
      · obtain ⟨a1, k1, w2, hap, hO2, hB2, -⟩ := own_push encTmOk Try.underlying22 infoTm rfl (HO.out.1.alloc (.cells #[.bool true, .string (tt ++ m)] 51)) ⟨true, (tt ++ m)⟩ (by rw [hl0]; unfold maxLen; omega) (by rw [hl0]; omega) (by rw [World.size_alloc]; have := HO.out.2.size; omega) 22
        have HN : Hid (OwnR 51 2 encTm w.heap.size w2 (.slice a1 (((ts.take j).map (Tm.ren m)).length + 1) k1) ((ts.take (j + 1)).map (Tm.ren m)) ∧ Stay w w2) := ⟨by rw [HT.out]; exact hO2, Below.trans (HO.out.2.alloc _) hB2⟩
        dsimp only [encTm] at hap
        rw [World.size_alloc] at hap
        clear hO2 hB2
        generalize ((ts.take j).map (Tm.ren m)).length + 1 = q at *
        clear hl0
        go_wp2_with (at_builtin; refine wpList_append_run rfl (.tmp 25) (.tmp 27) 22 22 rfl _ _ rfl rfl hap ?_; clear hap)
        go_roundw
        case rel => exact ⟨j + 1, _, rfl, by omega, by simp, HN.out⟩
        case measure => simp [intOf]; omega
    · obtain rfl : j = ts.length := by omega
      rw [List.take_length] at hO
      obtain ⟨a1, b1, c1, rfl, -⟩ := hO.form encTmOk
      have HO : Hid (OwnR 51 2 encTm w.heap.size wr (.slice a1 (ts.map (Tm.ren m)).length c1) (ts.map (Tm.ren m)) ∧ Stay w wr) := ⟨hO, hS⟩
      clear hO hS
      go_wp2
      show R _ _
      rw [HR.out]
      exact ⟨a1, c1, rfl, HO.out⟩

set_option maxRecDepth 100000 in
set_option maxHeartbeats 2000000 in
theorem sameInts_yes (w : World) (a1 a2 : Option Addr) (b1 b2 o1 o2 c1 c2 : Nat) (ts : List Int) (h1 : RecS 1 encI w a1 b1 o1 ts) (h2 : RecS 1 encI w a2 b2 o2 ts) (hn : ts.length ≤ 140737488355328) :
    Calls Try.prog 18 #[.slice a1 ts.length c1, .slice a2 ts.length c2] w fun e w' => e = .returned (.bool true) ∧ Stay w w' := by
  have HH : Hid (RecS 1 encI w a1 b1 o1 ts ∧ RecS 1 encI w a2 b2 o2 ts) := ⟨h1, h2⟩
  have HA1 : Hid (0 < ts.length → a1 = some ⟨b1, o1, none⟩) := h1.1
  have HA2 : Hid (0 < ts.length → a2 = some ⟨b2, o2, none⟩) := h2.1
  clear h1 h2
  generalize hm : ts.length = n at *
  have HN : Hid (ts.length = n) := hm
  clear hm
  have hnn : ((n : Int) != (n : Int)) = false := by simp
  go_enter Try.func18, Try.ntmps18
  go_wp2
  go_loopw [5] (fun i wr => Stay w wr ∧ ∃ k : Nat, k ≤ n ∧ i = .int .i64 (k : Int)) (fun i _ => n - (intOf i).toNat)
  case atStart => exact ⟨Stay.refl _, 0, Nat.zero_le _, rfl⟩
  case round =>
    obtain ⟨hst, k, hk, rfl⟩ := hrel
    by_cases hlt : k < n
    · have hkt : k < ts.length := by rw [HN.out]; exact hlt
      have hki : (k : Int) < (n : Int) := by omega
      obtain rfl := HA1.out (by omega)
      obtain rfl := HA2.out (by omega)
      have p0 := (HH.out.1.stay hst).2 k hkt 0 _ rfl
      have q0 := (HH.out.2.stay hst).2 k hkt 0 _ rfl
      simp only [Nat.mul_one, Nat.add_zero] at p0 q0
      generalize ts[k] = t at *
      have hq : (t != t) = false := by simp
      have HS : Hid (Stay w wr) := hst
      clear hst
      go_wp2_with fail
      go_region
      go_wp2_with fail
      go_roundw
      case rel => exact ⟨Below.drew HS.out, k + 1, by omega, by simp⟩
      case measure => simp [intOf]; omega
    · obtain rfl : k = n := by omega
      have hge : ¬ (k : Int) < (k : Int) := by omega
      have HS : Hid (Stay w wr) := hst
      clear hst
      go_wp2
      go_ret
      exact ⟨rfl, HS.out⟩

set_option maxRecDepth 100000 in
set_option maxHeartbeats 2000000 in
theorem sameTexts_yes (w : World) (a1 a2 : Option Addr) (b1 b2 o1 o2 c1 c2 : Nat) (ts : List ByteArray) (h1 : RecS 1 encSt w a1 b1 o1 ts) (h2 : RecS 1 encSt w a2 b2 o2 ts) (hn : ts.length ≤ 140737488355328) :
    Calls Try.prog 15 #[.slice a1 ts.length c1, .slice a2 ts.length c2] w fun e w' => e = .returned (.bool true) ∧ Stay w w' := by
  have HH : Hid (RecS 1 encSt w a1 b1 o1 ts ∧ RecS 1 encSt w a2 b2 o2 ts) := ⟨h1, h2⟩
  have HA1 : Hid (0 < ts.length → a1 = some ⟨b1, o1, none⟩) := h1.1
  have HA2 : Hid (0 < ts.length → a2 = some ⟨b2, o2, none⟩) := h2.1
  clear h1 h2
  generalize hm : ts.length = n at *
  have HN : Hid (ts.length = n) := hm
  clear hm
  have hnn : ((n : Int) != (n : Int)) = false := by simp
  go_enter Try.func15, Try.ntmps15
  go_wp2
  go_loopw [5] (fun i wr => Stay w wr ∧ ∃ k : Nat, k ≤ n ∧ i = .int .i64 (k : Int)) (fun i _ => n - (intOf i).toNat)
  case atStart => exact ⟨Stay.refl _, 0, Nat.zero_le _, rfl⟩
  case round =>
    obtain ⟨hst, k, hk, rfl⟩ := hrel
    by_cases hlt : k < n
    · have hkt : k < ts.length := by rw [HN.out]; exact hlt
      have hki : (k : Int) < (n : Int) := by omega
      obtain rfl := HA1.out (by omega)
      obtain rfl := HA2.out (by omega)
      have p0 := (HH.out.1.stay hst).2 k hkt 0 _ rfl
      have q0 := (HH.out.2.stay hst).2 k hkt 0 _ rfl
      simp only [Nat.mul_one, Nat.add_zero] at p0 q0
      generalize ts[k] = t at *
      have hq : (t.toList != t.toList) = false := by simp
      have HS : Hid (Stay w wr) := hst
      clear hst
      go_wp2_with fail
      go_region
      go_wp2_with fail
      go_roundw
      case rel => exact ⟨Below.drew HS.out, k + 1, by omega, by simp⟩
      case measure => simp [intOf]; omega
    · obtain rfl : k = n := by omega
      have hge : ¬ (k : Int) < (k : Int) := by omega
      have HS : Hid (Stay w wr) := hst
      clear hst
      go_wp2
      go_ret
      exact ⟨rfl, HS.out⟩
end Go.Proofs.Ytnmeljenldadfaa
namespace Go.Proofs.Ytnmeljenldadfaa
open Go.RowKit Go.Maps Go.Shelf

/-- An atom's terms in memory, apart from a list that grows and from a box. -/
def AtA (lo : Nat) (y : At) (v : Value) (b : Nat) (W : World) : Prop := RecS 2 encTm W y.a y.b y.off y.ts ∧ (0 < y.ts.length → v.ownBlock ≠ some y.b ∧ y.b ≠ b ∧ y.b < W.heap.size ∧ lo ≤ y.b)
theorem AtA.stay {lo : Nat} {y : At} {v : Value} {b : Nat} {W W' : World} (h : AtA lo y v b W) (hs : Stay W W') : AtA lo y v b W' :=
  ⟨h.1.stay hs, fun h0 => ⟨(h.2 h0).1, (h.2 h0).2.1, Nat.lt_of_lt_of_le (h.2 h0).2.2.1 hs.size, (h.2 h0).2.2.2⟩⟩
theorem RecS.same {α : Type} {n : Nat} {enc : α → List Value} {w w' : World} {a : Option Addr} {b off : Nat} {xs : List α} (h : RecS n enc w a b off xs) (hb : 0 < xs.length → w'.heap[b]? = w.heap[b]?) : RecS n enc w' a b off xs :=
  ⟨h.1, fun j hj i v hv => by
    have := h.2 j hj i v hv
    unfold World.cell? at *
    rw [hb (by omega)]
    exact this⟩
/-- Terms that were made anew lie apart from all that was there. -/
theorem AtA.new {V W : World} {a : Option Addr} {c : Nat} {ts : List Tm} (hO : OwnR 51 2 encTm V.heap.size W (.slice a ts.length c) ts) (p : ByteArray) (v : Value) (b : Nat) (hv : ∀ k, v.ownBlock = some k → k < V.heap.size) (hb : b < V.heap.size) {lo : Nat} (hlo : lo ≤ V.heap.size) :
    ∃ bk, AtA lo ⟨p, a, bk, 0, c, ts⟩ v b W := by
  obtain ⟨a', bk, c', hq, hR, -, hpos, -⟩ := hO.form encTmOk
  simp only [Value.slice.injEq] at hq
  obtain ⟨rfl, -, rfl⟩ := hq
  refine ⟨bk, hR, fun h0 => ?_⟩
  have hp := hpos h0
  obtain ⟨l1, l2⟩ := hO.lt bk (by rw [hp]; rfl)
  exact ⟨fun e => by have := hv _ e; dsimp only at this; omega, by dsimp only; omega, l2, by dsimp only; omega⟩

/-- At b lies the renamed rule, so far; the head's terms are hd's. -/
structure RnI (w : World) (x : Ru) (m : ByteArray) (b : Nat) (hd : At) (k : Nat) (v : Value) (cs : List Li) (W : World) : Prop where
  box : W.heap[b]? = some (.cells #[.string hd.pred, .slice hd.a hd.ts.length hd.cap, v] 27 (0, 0))
  head : AtA w.heap.size hd v b W
  ren : rens m cs (x.body.take k)
  own : OwnR 53 7 encLi w.heap.size W v cs
  ats : ∀ y ∈ cs, AtA w.heap.size y.atom v b W
  vb : v.ownBlock ≠ some b
  bel : Stay w W
  lo : w.heap.size ≤ b
theorem RnI.lt {w W : World} {x : Ru} {m : ByteArray} {b k : Nat} {hd : At} {v : Value} {cs : List Li} (h : RnI w x m b hd k v cs W) : b < W.heap.size := (Array.getElem?_eq_some_iff.1 h.box).1
theorem RnI.stay {w W W' : World} {x : Ru} {m : ByteArray} {b k : Nat} {hd : At} {v : Value} {cs : List Li} (h : RnI w x m b hd k v cs W) (hs : Stay W W') : RnI w x m b hd k v cs W' :=
  ⟨(hs.block _ h.lt).trans h.box, h.head.stay hs, h.ren, h.own.stay hs, fun y hy => (h.ats y hy).stay hs, h.vb, h.bel.trans hs, h.lo⟩
theorem RnI.cells {w W : World} {x : Ru} {m : ByteArray} {b k : Nat} {hd : At} {v : Value} {cs : List Li} (h : RnI w x m b hd k v cs W) : W.cell? ⟨b, 0, none⟩ = some (.string hd.pred) ∧ W.cell? ⟨b, 1, none⟩ = some (.slice hd.a hd.ts.length hd.cap) ∧ W.cell? ⟨b, 2, none⟩ = some v := by
  have := h.box
  simp [World.cell?, this]
theorem RnI.push {w W : World} {x : Ru} {m : ByteArray} {b k : Nat} {hd : At} {v : Value} {cs : List Li} (h : RnI w x m b hd k v cs W) (hk : k < x.body.length) (hkn : k ≤ 1048576) (y : Li) (hy : y.renOf m x.body[k]) (ha : AtA w.heap.size y.atom v b W) (ty : TypeId) :
    ∃ a1 n1 c1 w2, (Builtin.append_ #[25, 25] ty #[v, .slice (some ⟨W.heap.size, 0, none⟩) 1 1]).run Try.prog (W.alloc (.cells (encLi y).toArray 53)) = .ok (.slice a1 n1 c1) w2 ∧
      w2.cell? ⟨b, 2, none⟩ = some v ∧ w2.frozen? ⟨b, 2, none⟩ = false ∧ RnI w x m b hd (k + 1) (.slice a1 n1 c1) (cs ++ [y]) (w2.setCell ⟨b, 2, none⟩ (.slice a1 n1 c1)) ∧ ∀ j, j < W.heap.size → v.ownBlock ≠ some j → w2.heap[j]? = W.heap[j]? := by
  have hcl : cs.length = k := by rw [h.ren.1, List.length_take]; omega
  have hbl := h.lt
  obtain ⟨a1, c1, w2, hr, hO, hB, hkp, hat, hz⟩ := own_push encLiOk Try.underlying25 infoLi rfl h.own y (by rw [hcl]; unfold maxLen; omega) (by rw [hcl]; omega) h.bel.size ty
  have hb2 : w2.heap[b]? = W.heap[b]? := hkp b hbl h.vb
  have q0 := hb2.trans h.box
  have hvb : (Value.slice a1 (cs.length + 1) c1).ownBlock ≠ some b := fun e => by
    rcases hat with e' | e'
    · exact h.vb (e' ▸ e)
    · rw [e'] at e; have := Option.some.inj e; omega
  have key : ∀ z : At, AtA w.heap.size z v b W → AtA w.heap.size z (.slice a1 (cs.length + 1) c1) b (w2.setCell ⟨b, 2, none⟩ (.slice a1 (cs.length + 1) c1)) := fun z hz' => by
    refine ⟨hz'.1.same fun h0 => ?_, fun h0 => ?_⟩
    · obtain ⟨g1, g2, g3, g4⟩ := hz'.2 h0
      exact (Below.heap_setCell _ _ _ _ (fun e => g2 e)).trans (hkp _ g3 g1)
    · obtain ⟨g1, g2, g3, g4⟩ := hz'.2 h0
      refine ⟨fun e => ?_, g2, by simp; omega, g4⟩
      rcases hat with e' | e'
      · exact g1 (e' ▸ e)
      · rw [e'] at e; have := Option.some.inj e; omega
  refine ⟨a1, _, c1, w2, hr, by simp [World.cell?, q0], by simp [World.frozen?, q0], ⟨?_, key _ h.head, ?_, ?_, fun z hz' => ?_, hvb, ?_, h.lo⟩, hkp⟩
  · simp [World.setCell, Array.getElem?_modify, q0]
  · rw [List.take_add_one, List.getElem?_eq_getElem hk, Option.toList_some]
    exact rens_snoc h.ren hy
  · refine OwnR.held hO fun g hg => Below.heap_setCell _ _ _ _ (fun e => ?_)
    have e : g = b := e
    exact hvb (e ▸ hg)
  · rcases List.mem_append.1 hz' with hz' | hz'
    · exact key _ (h.ats z hz')
    · rw [List.mem_singleton] at hz'; subst hz'; exact key _ ha
  · exact Below.setCell (Below.trans h.bel hB) (p := ⟨b, 2, none⟩) h.lo _
theorem newAt {base : Nat} {W : World} {a : Option Addr} {c : Nat} {ts : List Tm} (hO : OwnR 51 2 encTm base W (.slice a ts.length c) ts) : ∃ bk, RecS 2 encTm W a bk 0 ts ∧ (0 < ts.length → base ≤ bk ∧ bk < W.heap.size) := by
  obtain ⟨a', bk, c', hq, hR, -, hpos, -⟩ := hO.form encTmOk
  simp only [Value.slice.injEq] at hq
  obtain ⟨rfl, -, rfl⟩ := hq
  exact ⟨bk, hR, fun h0 => hO.lt bk (by rw [hpos h0]; rfl)⟩
/-- The beginning, if the box is made behind the head's terms. -/
theorem RnI.startA {w0 W1 : World} {x : Ru} {m : ByteArray} {a1 : Option Addr} {k1 hl : Nat} (s1 : Stay w0.drew W1) (hh : hl = x.head.ts.length) (hO : OwnR 51 2 encTm w0.drew.heap.size W1 (.slice a1 hl k1) (x.head.ts.map (Tm.ren m))) :
    ∃ hd : At, hd.pred = x.head.pred ∧ hd.ts = x.head.ts.map (Tm.ren m) ∧ RnI w0 x m W1.heap.size hd 0 (.slice none 0 0) [] (W1.alloc (.cells #[.string x.head.pred, .slice a1 hl k1, .slice none 0 0] 27)) := by
  have hl' : hl = (x.head.ts.map (Tm.ren m)).length := by rw [List.length_map]; exact hh
  subst hl'
  obtain ⟨bk, hR, hb⟩ := newAt hO
  have sN : Stay W1 (W1.alloc (.cells #[.string x.head.pred, .slice a1 (x.head.ts.map (Tm.ren m)).length k1, .slice none 0 0] 27)) := Stay.new _ _
  refine ⟨⟨x.head.pred, a1, bk, 0, k1, x.head.ts.map (Tm.ren m)⟩, rfl, rfl, ⟨heap_new _ _, ⟨hR.stay sN, fun h0 => ?_⟩, by rw [List.take_zero]; exact rens_nil, OwnR.nil, (fun _ h => nomatch h), (fun e => nomatch e), ((Stay.drew w0).trans s1).trans sN, s1.size⟩⟩
  obtain ⟨g1, g2⟩ := hb h0
  exact ⟨(fun e => nomatch e), by dsimp only; omega, Nat.lt_of_lt_of_le g2 sN.size, g1⟩
/-- The beginning, if the box is made ahead of the head's terms. -/
theorem RnI.startB {w0 W1 : World} {x : Ru} {m : ByteArray} {a1 : Option Addr} {k1 hl : Nat} {o1 o2 o3 : Value} (s1 : Stay (w0.drew.alloc (.cells #[o1, o2, o3] 27)) W1) (hh : hl = x.head.ts.length) (hO : OwnR 51 2 encTm (w0.drew.alloc (.cells #[o1, o2, o3] 27)).heap.size W1 (.slice a1 hl k1) (x.head.ts.map (Tm.ren m))) :
    ∃ hd : At, hd.pred = x.head.pred ∧ hd.ts = x.head.ts.map (Tm.ren m) ∧ RnI w0 x m w0.heap.size hd 0 (.slice none 0 0) [] (((W1.setCell ⟨w0.heap.size, 0, none⟩ (.string x.head.pred)).setCell ⟨w0.heap.size, 1, none⟩ (.slice a1 hl k1)).setCell ⟨w0.heap.size, 2, none⟩ (.slice none 0 0)) := by
  have hl' : hl = (x.head.ts.map (Tm.ren m)).length := by rw [List.length_map]; exact hh
  subst hl'
  obtain ⟨bk, hR, hb⟩ := newAt hO
  have hsz : (w0.drew.alloc (.cells #[o1, o2, o3] 27)).heap.size = w0.heap.size + 1 := World.size_alloc _ _
  rw [hsz] at hb
  have hbx : W1.heap[w0.heap.size]? = some (.cells #[o1, o2, o3] 27 (0, 0)) := (s1.block _ (by rw [hsz]; exact Nat.lt_succ_self _)).trans (heap_new w0.drew (.cells #[o1, o2, o3] 27))
  have hs : Stay w0 W1 := ((Stay.drew w0).alloc _).trans s1
  refine ⟨⟨x.head.pred, a1, bk, 0, k1, x.head.ts.map (Tm.ren m)⟩, rfl, rfl, ⟨?_, ⟨hR.same fun h0 => ?_, fun h0 => ?_⟩, by rw [List.take_zero]; exact rens_nil, OwnR.nil, (fun _ h => nomatch h), (fun e => nomatch e), ?_, Nat.le_refl _⟩⟩
  · simp [World.setCell, Array.getElem?_modify, hbx]
  · have hne : bk ≠ w0.heap.size := by have := (hb h0).1; omega
    exact ((Below.heap_setCell _ _ _ _ (fun e => hne e)).trans (Below.heap_setCell _ _ _ _ (fun e => hne e))).trans (Below.heap_setCell _ _ _ _ (fun e => hne e))
  · obtain ⟨g1, g2⟩ := hb h0
    exact ⟨(fun e => nomatch e), by dsimp only; omega, by simp [World.setCell]; omega, by dsimp only; omega⟩
  · exact ((Below.setCell hs (p := ⟨w0.heap.size, 0, none⟩) (Nat.le_refl _) _).setCell (p := ⟨w0.heap.size, 1, none⟩) (Nat.le_refl _) _).setCell (p := ⟨w0.heap.size, 2, none⟩) (Nat.le_refl _) _
/-- What is renamed is as fit as what it was, if the names are short enough. -/
theorem ren_size {m : ByteArray} {t : Tm} {n : Nat} (h : t.text.size + m.size ≤ n) : (t.ren m).text.size ≤ n := by
  unfold Tm.ren
  dsimp only
  split
  · rw [ByteArray.size_append]; exact h
  · omega
def Ru.shortBy (x : Ru) (q : Nat) : Prop := (∀ t ∈ x.head.ts, t.text.size + q ≤ 1048576) ∧ ∀ l ∈ x.body, (∀ t ∈ l.atom.ts, t.text.size + q ≤ 1048576) ∧ l.left.text.size + q ≤ 1048576 ∧ l.right.text.size + q ≤ 1048576
theorem ren_fit {w w' : World} {x y : Ru} {m : ByteArray} (h : x.fit w) (hs : x.shortBy m.size) (hr : y.renOf m x) (hi : y.In w') : y.fit w' := by
  refine ⟨hi, ⟨?_, ?_, fun l hl => ?_⟩, reads_of_in hi, fun t ht => ?_, fun l hl => ?_⟩
  · rw [hr.1, List.length_map]; exact h.small.1
  · rw [hr.2.1]; exact h.small.2.1
  · obtain ⟨j, hj, rfl⟩ := List.mem_iff_getElem.1 hl
    have hj' : j < x.body.length := by rw [← hr.2.1]; exact hj
    rw [(hr.2.2 j hj hj').2.1, List.length_map]
    exact h.small.2.2 _ (List.getElem_mem hj')
  · rw [hr.1] at ht
    obtain ⟨t', ht', rfl⟩ := List.mem_map.1 ht
    exact ren_size (hs.1 t' ht')
  · obtain ⟨j, hj, rfl⟩ := List.mem_iff_getElem.1 hl
    have hj' : j < x.body.length := by rw [← hr.2.1]; exact hj
    obtain ⟨-, e2, e3, e4⟩ := hr.2.2 j hj hj'
    obtain ⟨g1, g2, g3⟩ := hs.2 _ (List.getElem_mem hj')
    refine ⟨fun t ht => ?_, by rw [e3]; exact ren_size g2, by rw [e4]; exact ren_size g3⟩
    rw [e2] at ht
    obtain ⟨t', ht', rfl⟩ := List.mem_map.1 ht
    exact ren_size (g1 t' ht')
end Go.Proofs.Ytnmeljenldadfaa
