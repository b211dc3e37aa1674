/- New, Get, Place, Size, Probes. -/
import Derived.Test.YtdnophgcdnghkaaIQi
namespace Go.Proofs.Ytdnophgcdnghkaa.I
open Go.RowKit Go.Maps Go.Proofs.Ytdnophgcdnghkaa

theorem eql_h (lb : Array Value) (w : World) : (binOp .eql 35 (.func (.func 20) #[] lb) .nilFunc).run Try.prog w = .ok (.bool false) w := by kernel_rfl
theorem eql_s (lb : Array Value) (w : World) : (binOp .eql 37 (.func (.func 22) #[] lb) .nilFunc).run Try.prog w = .ok (.bool false) w := by kernel_rfl
theorem eql_hn (w : World) : (binOp .eql 35 .nilFunc .nilFunc).run Try.prog w = .ok (.bool true) w := by kernel_rfl
theorem eql_sn (w : World) : (binOp .eql 37 .nilFunc .nilFunc).run Try.prog w = .ok (.bool true) w := by kernel_rfl

section
variable {w : World} {bt pb N len reach : Nat} {fp : Nat × Nat × Int} {cv : Value} {came : List E} {places : List Nat}

theorem zero_spots : ((List.replicate 8 0).map fun (p : Nat) => Value.int .i64 (p : Int)).toArray = #[.int .i64 0, .int .i64 0, .int .i64 0, .int .i64 0, .int .i64 0, .int .i64 0, .int .i64 0, .int .i64 0] := rfl

theorem new_tab (hF : Fns w fp) : Tab ((w.alloc (.cells ((List.replicate 8 0).map fun (p : Nat) => Value.int .i64 (p : Int)).toArray 3)).alloc (.cells #[(.func (.func 20) #[] #[.pointer (some ⟨fp.1, 0, none⟩)]), (.func (.func 22) #[] #[.pointer (some ⟨fp.2.1, 0, none⟩)]), .slice none 0 0, .slice (some ⟨w.heap.size, 0, none⟩) 8 8, .int .i64 0, .int .i64 0] 64)) (w.heap.size + 1) fp (.slice none 0 0) w.heap.size 8 0 0 [] (List.replicate 8 0) := by
  have hs : (w.alloc (.cells ((List.replicate 8 0).map fun (p : Nat) => Value.int .i64 (p : Int)).toArray 3)).heap.size = w.heap.size + 1 := by simp
  have h1 := heap_new w (.cells ((List.replicate 8 0).map fun (p : Nat) => Value.int .i64 (p : Int)).toArray 3)
  have hT : Turn (fun _ => False) w (w.alloc (.cells ((List.replicate 8 0).map fun (p : Nat) => Value.int .i64 (p : Int)).toArray 3)) := Turn.of_stay (Stay.new w _)
  have hlt := fun k hk => hF.lt k hk
  generalize w.alloc (.cells ((List.replicate 8 0).map fun (p : Nat) => Value.int .i64 (p : Int)).toArray 3) = w1 at hs h1 hT ⊢
  refine ⟨?_, .inl ⟨rfl, rfl⟩, Spots.mk1 ((Below.heap_alloc w1 _ w.heap.size (by omega)).trans h1), hF.turn (hT.trans (Turn.of_stay (Stay.new w1 _))) (fun _ _ e => e), ⟨3, rfl, by decide⟩, by decide, Lies.empty 8 _, rfl, rfl, by decide, by decide, ?_, ?_, ?_, ⟨by omega, by simp [Value.ownBlock], by simp [Value.ownBlock]⟩, by simp⟩
  · refine ⟨8, ?_⟩
    rw [← hs]
    exact heap_new w1 _
  · intro t e he; simp at he
  · intro t e t' e' he; simp at he
  · intro k hk
    have := hlt k hk
    exact ⟨by omega, by omega, by simp [Value.ownBlock]⟩

set_option maxRecDepth 100000 in
theorem new_any (hF : Fns w fp) : Calls Try.prog 5 #[(.func (.func 20) #[] #[.pointer (some ⟨fp.1, 0, none⟩)]), (.func (.func 22) #[] #[.pointer (some ⟨fp.2.1, 0, none⟩)])] w fun e w' => e = .returned (.tuple #[.pointer (some ⟨w.heap.size + 1, 0, none⟩), .int .i64 0]) ∧ Tab w' (w.heap.size + 1) fp (.slice none 0 0) w.heap.size 8 0 0 [] (List.replicate 8 0) ∧ Stay w w' := by
  have HT : Hid (Tab _ (w.heap.size + 1) fp (.slice none 0 0) w.heap.size 8 0 0 [] (List.replicate 8 0)) := new_tab hF
  have hmk : (Instr.makeSlice 47 (.int .i64 8) (.int .i64 8)).run Try.prog w = _ := run_makeSpots 8 (by decide) w
  have HS : Hid (Stay w ((w.alloc (.cells ((List.replicate 8 0).map fun (p : Nat) => Value.int .i64 (p : Int)).toArray 3)).alloc (.cells #[(.func (.func 20) #[] #[.pointer (some ⟨fp.1, 0, none⟩)]), (.func (.func 22) #[] #[.pointer (some ⟨fp.2.1, 0, none⟩)]), .slice none 0 0, .slice (some ⟨w.heap.size, 0, none⟩) 8 8, .int .i64 0, .int .i64 0] 64))) := (Stay.new w _).alloc _
  generalize ((List.replicate 8 0).map fun (p : Nat) => Value.int .i64 (p : Int)).toArray = zs at hmk HT HS
  have h1 := eql_h
  have h2 := eql_s
  clear hF
  go_enter Try.func5, Try.ntmps5
  go_wp2
  go_ret2
  exact ⟨rfl, HT.out, HS.out⟩

theorem new_nil1 (sv : Value) : Calls Try.prog 5 #[.nilFunc, sv] w fun e w' => e = .returned (.tuple #[.pointer none, .int .i64 1]) ∧ w' = w := by
  have h1 := eql_hn
  go_enter Try.func5, Try.ntmps5
  go_wp2
  go_ret2
  exact ⟨rfl, rfl⟩

theorem new_nil2 (lb : Array Value) : Calls Try.prog 5 #[.func (.func 20) #[] lb, .nilFunc] w fun e w' => e = .returned (.tuple #[.pointer none, .int .i64 1]) ∧ w' = w := by
  have h1 := eql_h
  have h2 := eql_sn
  go_enter Try.func5, Try.ntmps5
  go_wp2
  go_ret2
  exact ⟨rfl, rfl⟩

theorem get_yes (h : Tab w bt fp cv pb N len reach came places) (k : Int) (hk : KeyOk k) {t : Nat} {e : E} (he : came[t]? = some e) (hth : e.there = true) (hs : sm fp e.key k = true) :
    Calls Try.prog 25 #[.pointer (some ⟨bt, 0, none⟩), .int .i64 (k)] w fun e' w' => e' = .returned (.tuple #[.int .i64 (e.val), .bool true]) ∧ ∃ n, w' = w.drewN n := by
  obtain ⟨g, cap, hcv, hC⟩ := h.row.at he
  have hf := find_yes h k hk hcv hC he hth hs
  have hc := (hC.cells t e he).2.1
  clear h hC he hcv
  go_enter Try.func25, Try.ntmps25
  go_wp2_with fail
  refine hf.mono ?_
  rintro e9 w9 ⟨rfl, n, rfl⟩
  clear hf
  go_wp2
  go_ret2
  exact ⟨rfl, n, rfl⟩

theorem get_no (h : Tab w bt fp cv pb N len reach came places) (k : Int) (hk : KeyOk k) (hno : ∀ (t : Nat) (e : E), came[t]? = some e → e.there = true → sm fp e.key k = false) :
    Calls Try.prog 25 #[.pointer (some ⟨bt, 0, none⟩), .int .i64 (k)] w fun e' w' => e' = .returned (.tuple #[(.int .i64 0), .bool false]) ∧ ∃ n, w' = w.drewN n := by
  have hf := find_no h k hk hno
  clear h hno
  go_enter Try.func25, Try.ntmps25
  go_wp2_with fail
  refine hf.mono ?_
  rintro e9 w9 ⟨rfl, n, rfl⟩
  clear hf
  go_wp2
  go_ret2
  exact ⟨rfl, n, rfl⟩

theorem place_yes (h : Tab w bt fp cv pb N len reach came places) (k : Int) (hk : KeyOk k) {t : Nat} {e : E} (he : came[t]? = some e) (hth : e.there = true) (hs : sm fp e.key k = true) :
    Calls Try.prog 29 #[.pointer (some ⟨bt, 0, none⟩), .int .i64 (k)] w fun e' w' => e' = .returned (.tuple #[.int .i64 (e.place : Int), .bool true]) ∧ ∃ n, w' = w.drewN n := by
  obtain ⟨g, cap, hcv, hC⟩ := h.row.at he
  have hf := find_yes h k hk hcv hC he hth hs
  have hc := (hC.cells t e he).2.2.2.1
  clear h hC he hcv
  go_enter Try.func29, Try.ntmps29
  go_wp2_with fail
  refine hf.mono ?_
  rintro e9 w9 ⟨rfl, n, rfl⟩
  clear hf
  go_wp2
  go_ret2
  exact ⟨rfl, n, rfl⟩

theorem place_no (h : Tab w bt fp cv pb N len reach came places) (k : Int) (hk : KeyOk k) (hno : ∀ (t : Nat) (e : E), came[t]? = some e → e.there = true → sm fp e.key k = false) :
    Calls Try.prog 29 #[.pointer (some ⟨bt, 0, none⟩), .int .i64 (k)] w fun e' w' => e' = .returned (.tuple #[.int .i64 0, .bool false]) ∧ ∃ n, w' = w.drewN n := by
  have hf := find_no h k hk hno
  clear h hno
  go_enter Try.func29, Try.ntmps29
  go_wp2_with fail
  refine hf.mono ?_
  rintro e9 w9 ⟨rfl, n, rfl⟩
  clear hf
  go_wp2
  go_ret2
  exact ⟨rfl, n, rfl⟩

theorem size_yes (h : Tab w bt fp cv pb N len reach came places) : Calls Try.prog 16 #[.pointer (some ⟨bt, 0, none⟩)] w fun e' w' => e' = .returned (.int .i64 (N : Int)) ∧ w' = w := by
  have hm := made_yes h.box.c0
  obtain ⟨pc3, c3⟩ := h.box.c3
  clear h
  go_enter Try.func16, Try.ntmps16
  go_wp2_with fail
  refine hm.mono ?_
  rintro e9 w9 ⟨rfl, hw⟩
  have hw' := hw.symm; subst hw'
  clear hm
  go_wp2
  go_ret
  exact ⟨rfl, rfl⟩

set_option maxRecDepth 100000 in
theorem probes_any (h : Tab w bt fp cv pb N len reach came places) (k : Int) (hk : KeyOk k) :
    Calls Try.prog 31 #[.pointer (some ⟨bt, 0, none⟩), .int .i64 (k)] w fun e' w' => ∃ r : Nat, Ends N (hf fp k % N) came places (hit fp (hf fp k) k) r ∧ e' = .returned (.int .i64 ((dist N (hf fp k % N) r + 1 : Nat) : Int)) ∧ ∃ n, w' = w.drewN n := by
  have hm := made_yes h.box.c0
  have hh := hash_any h.fns k hk
  have hse := h.search k hk
  have c0 := h.box.c0
  obtain ⟨pc3, c3⟩ := h.box.c3
  have hb := h.pow.bd
  have hst := fun n q hq => steps_any (w := w.drewN n) (bt := bt) (pb := pb) ⟨_, c3⟩ h.pow (hf fp k) q (hf_lt fp k) hq
  have hml : hf fp k % N < N := Nat.mod_lt _ hb.1
  clear h
  go_enter Try.func31, Try.ntmps31
  go_wp2_with fail
  refine hm.mono ?_
  rintro e9 w9 ⟨rfl, hw⟩
  have hw' := hw.symm; subst hw'
  clear hm
  go_wp2_with fail
  refine hh.mono ?_
  rintro e9 w9 ⟨rfl, hw⟩
  have hw' := hw.symm; subst hw'
  clear hh
  go_wp2_with fail
  refine hse.mono ?_
  rintro e9 w9 ⟨r, rfl, hE, n, rfl⟩
  have hs2 := hst n r hE.lt
  have hdl := (dist_spec hml hE.lt).1
  clear hse hst
  go_wp2_with fail
  refine hs2.mono ?_
  rintro e9 w9 ⟨rfl, hw⟩
  have hw' := hw.symm; subst hw'
  clear hs2
  have HE : Hid (Ends N (hf fp k % N) came places (hit fp (hf fp k) k) r) := hE
  clear hE
  go_wp2
  go_ret
  exact ⟨r, HE.out, rfl, n, rfl⟩
end
end Go.Proofs.Ytdnophgcdnghkaa.I
