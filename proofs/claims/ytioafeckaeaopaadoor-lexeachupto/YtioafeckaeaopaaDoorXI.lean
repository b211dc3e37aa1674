/- firstWord. -/
import Derived.Test.YtioafeckaeaopaaDoorXH
namespace Go.Proofs.YtioafeckaeaopaaDoor
open Go.RowKit Go.Maps

/-- A token: its kind, its text, where it begins, where it ends. -/
structure Tok where
  kind : Int
  text : List UInt8
  at_ : Nat
  fin : Nat
deriving DecidableEq
def Tok.cells (t : Tok) : Array Value := #[.int .i64 t.kind, .string ⟨t.text.toArray⟩, .int .i64 (t.at_ : Int), .int .i64 (t.fin : Int)]
def Tok.val (t : Tok) : Value := .agg t.cells
def tok0 : Tok := ⟨0, [], 0, 0⟩

theorem stClone_any (s : ByteArray) (w : World) (hs : s.size ≤ 281474976710656) :
    Calls Tryd.prog 43 #[.string s] w fun e w' => e = .returned (.string s) ∧ Stay w w' := by
  have h := Tryd.stringslite_Clone s w hs
  go_enter Tryd.func43, Tryd.ntmps43
  go_wp2_with (go_at_call 55; refine h.mono ?_; rintro e w' ⟨rfl, hb⟩)
  go_ret
  exact ⟨rfl, hb⟩

/-- What a block of four cells gives a walk. -/
theorem four {W : World} {b : Nat} {v0 v1 v2 v3 : Value} {T : TypeId} (h : W.heap[b]? = some (.cells #[v0, v1, v2, v3] T (0, 0))) :
    W.cell? ⟨b, 0, none⟩ = some v0 ∧ W.cell? ⟨b, 1, none⟩ = some v1 ∧ W.cell? ⟨b, 2, none⟩ = some v2 ∧ W.cell? ⟨b, 3, none⟩ = some v3 ∧
      W.frozen? ⟨b, 0, none⟩ = false ∧ W.frozen? ⟨b, 1, none⟩ = false ∧ W.frozen? ⟨b, 2, none⟩ = false ∧ W.frozen? ⟨b, 3, none⟩ = false := by
  simp [World.cell?, World.frozen?, h]
theorem set4 {W : World} {b : Nat} {v0 v1 v2 v3 : Value} {T : TypeId} (h : W.heap[b]? = some (.cells #[v0, v1, v2, v3] T (0, 0))) (u0 u1 u2 u3 : Value) :
    ((((W.setCell ⟨b, 0, none⟩ u0).setCell ⟨b, 1, none⟩ u1).setCell ⟨b, 2, none⟩ u2).setCell ⟨b, 3, none⟩ u3).heap[b]? = some (.cells #[u0, u1, u2, u3] T (0, 0)) := by
  simp [World.setCell, Array.getElem?_modify, h]
theorem stay_new2 {w w2 : World} {o1 o2 : Obj} (h : Stay ((w.alloc o1).alloc o2) w2) : w2.heap[w.heap.size]? = some o1 ∧ w2.heap[w.heap.size + 1]? = some o2 := by
  have h1 := h.block w.heap.size (by simp; omega)
  have h2 := h.block (w.heap.size + 1) (by simp)
  refine ⟨h1.trans ((Below.heap_alloc _ _ _ (by simp)).trans (heap_new w o1)), h2.trans ?_⟩
  have := heap_new (w.alloc o1) o2
  rwa [World.size_alloc] at this
theorem stay_set {w w' : World} (h : Stay w w') {p : Addr} (hp : w.heap.size ≤ p.block) (v : Value) : Stay w (w'.setCell p v) := Below.setCell h hp v

/-- The word that a text begins with, as a token. -/
def firstWordT (l : List UInt8) : Tok := ⟨wordK l, if wordK l = 1 ∨ wordK l = 2 ∨ wordK l = 3 then l.take (wordN l) else [], 0, wordN l⟩

set_option maxRecDepth 100000 in
set_option maxHeartbeats 1000000 in
theorem firstWord_any (s : ByteArray) (w : World) (hT : Tabs w) :
    Calls Tryd.prog 68 #[.string s] w fun e w' => e = .returned (firstWordT s.data.toList).val ∧ Stay w w' := by
  have hw := fun W (h : Stay w W) => word_any s W (hT.stay h)
  have hle := wordN_le s.data.toList
  rw [show s.data.toList.length = s.size by simp] at hle
  obtain ⟨hle1, hle2⟩ := hle
  have hcl := fun W => stClone_any (s.extract 0 (wordN s.data.toList)) W (by simp; omega)
  have HX : Hid (s.extract 0 (wordN s.data.toList) = ⟨(s.data.toList.take (wordN s.data.toList)).toArray⟩) := by
    show s.extract 0 (wordN s.data.toList) = _
    rw [Lib.extract_eq]; simp
  unfold Tok.val Tok.cells firstWordT
  dsimp only
  generalize wordN s.data.toList = n at *
  generalize wordK s.data.toList = k at *
  generalize s.data.toList.take n = m at *
  clear hT
  have hi1 : (n : Int) ≤ (s.size : Int) := by omega
  by_cases h1 : k = 1
  · subst h1
    go_enter Tryd.func68, Tryd.ntmps68
    go_wp2_with (first
      | (go_at_call 50; refine (hw _ (Stay.new _ _)).mono ?_; rintro e w' ⟨rfl, rfl⟩)
      | (go_at_call 43; refine (hcl _).mono ?_; rintro e w2 ⟨rfl, hs2⟩; obtain ⟨ha, hb⟩ := stay_new2 hs2; obtain ⟨a0, a1, a2, a3, a4, a5, a6, a7⟩ := four ha; obtain ⟨b0, b1, b2, b3, b4, b5, b6, b7⟩ := four hb; have HS : Hid (Stay w w2 ∧ w2.heap[w.heap.size]? = some (.cells #[.int .i64 0, .string ⟨#[]⟩, .int .i64 0, .int .i64 0] 25 (0, 0))) := ⟨((Stay.new _ _).trans (Stay.new _ _)).trans hs2, ha⟩; clear hs2 ha hb))
    have hc : (w2.setCell ⟨w.heap.size + 1, 1, none⟩ (.string (s.extract 0 n))).heap[w.heap.size]? = some (.cells #[.int .i64 0, .string ⟨#[]⟩, .int .i64 0, .int .i64 0] 25 (0, 0)) := (Below.heap_setCell _ _ _ _ (by simp)).trans HS.out.2
    obtain ⟨q0, q1, q2, q3, -⟩ := four (set4 hc (.int .i64 1) (.string (s.extract 0 n)) (.int .i64 0) (.int .i64 (n : Int)))
    refine bodyPost_ret (v := .agg #[.int .i64 1, .string (s.extract 0 n), .int .i64 0, .int .i64 (n : Int)]) (by simp [results, Tryd.results68, go_sem, q0, q1, q2, q3]) rfl ⟨by rw [HX.out], ?_⟩
    repeat (refine stay_set ?_ (by simp) _)
    exact HS.out.1
  · by_cases h2 : k = 2
    · subst h2
      go_enter Tryd.func68, Tryd.ntmps68
      go_wp2_with (first
        | (go_at_call 50; refine (hw _ (Stay.new _ _)).mono ?_; rintro e w' ⟨rfl, rfl⟩)
        | (go_at_call 43; refine (hcl _).mono ?_; rintro e w2 ⟨rfl, hs2⟩; obtain ⟨ha, hb⟩ := stay_new2 hs2; obtain ⟨a0, a1, a2, a3, a4, a5, a6, a7⟩ := four ha; obtain ⟨b0, b1, b2, b3, b4, b5, b6, b7⟩ := four hb; have HS : Hid (Stay w w2 ∧ w2.heap[w.heap.size]? = some (.cells #[.int .i64 0, .string ⟨#[]⟩, .int .i64 0, .int .i64 0] 25 (0, 0))) := ⟨((Stay.new _ _).trans (Stay.new _ _)).trans hs2, ha⟩; clear hs2 ha hb))
      have hc : (w2.setCell ⟨w.heap.size + 1, 1, none⟩ (.string (s.extract 0 n))).heap[w.heap.size]? = some (.cells #[.int .i64 0, .string ⟨#[]⟩, .int .i64 0, .int .i64 0] 25 (0, 0)) := (Below.heap_setCell _ _ _ _ (by simp)).trans HS.out.2
      obtain ⟨q0, q1, q2, q3, -⟩ := four (set4 hc (.int .i64 2) (.string (s.extract 0 n)) (.int .i64 0) (.int .i64 (n : Int)))
      refine bodyPost_ret (v := .agg #[.int .i64 2, .string (s.extract 0 n), .int .i64 0, .int .i64 (n : Int)]) (by simp [results, Tryd.results68, go_sem, q0, q1, q2, q3]) rfl ⟨by rw [HX.out], ?_⟩
      repeat (refine stay_set ?_ (by simp) _)
      exact HS.out.1
    by_cases h3 : k = 3
    · subst h3
      go_enter Tryd.func68, Tryd.ntmps68
      go_wp2_with (first
        | (go_at_call 50; refine (hw _ (Stay.new _ _)).mono ?_; rintro e w' ⟨rfl, rfl⟩)
        | (go_at_call 43; refine (hcl _).mono ?_; rintro e w2 ⟨rfl, hs2⟩; obtain ⟨ha, hb⟩ := stay_new2 hs2; obtain ⟨a0, a1, a2, a3, a4, a5, a6, a7⟩ := four ha; obtain ⟨b0, b1, b2, b3, b4, b5, b6, b7⟩ := four hb; have HS : Hid (Stay w w2 ∧ w2.heap[w.heap.size]? = some (.cells #[.int .i64 0, .string ⟨#[]⟩, .int .i64 0, .int .i64 0] 25 (0, 0))) := ⟨((Stay.new _ _).trans (Stay.new _ _)).trans hs2, ha⟩; clear hs2 ha hb))
      have hc : (w2.setCell ⟨w.heap.size + 1, 1, none⟩ (.string (s.extract 0 n))).heap[w.heap.size]? = some (.cells #[.int .i64 0, .string ⟨#[]⟩, .int .i64 0, .int .i64 0] 25 (0, 0)) := (Below.heap_setCell _ _ _ _ (by simp)).trans HS.out.2
      obtain ⟨q0, q1, q2, q3, -⟩ := four (set4 hc (.int .i64 3) (.string (s.extract 0 n)) (.int .i64 0) (.int .i64 (n : Int)))
      refine bodyPost_ret (v := .agg #[.int .i64 3, .string (s.extract 0 n), .int .i64 0, .int .i64 (n : Int)]) (by simp [results, Tryd.results68, go_sem, q0, q1, q2, q3]) rfl ⟨by rw [HX.out], ?_⟩
      repeat (refine stay_set ?_ (by simp) _)
      exact HS.out.1
    · have e1 : ((k : Int) == 1) = false := by simp; omega
      have e2 : ((k : Int) == 2) = false := by simp; omega
      have e3 : ((k : Int) == 3) = false := by simp; omega
      have HK : Hid (¬ (k = 1 ∨ k = 2 ∨ k = 3)) := by show ¬ (k = 1 ∨ k = 2 ∨ k = 3); omega
      rw [if_neg HK.out]
      clear h1 h2 h3
      go_enter Tryd.func68, Tryd.ntmps68
      go_wp2_with (go_at_call 50; refine (hw _ (Stay.new _ _)).mono ?_; rintro e w' ⟨rfl, rfl⟩)
      refine bodyPost_ret (v := .agg #[.int .i64 (k : Int), .string ⟨#[]⟩, .int .i64 0, .int .i64 (n : Int)]) (by simp [results, Tryd.results68, go_sem]) rfl ⟨rfl, ?_⟩
      repeat (refine stay_set ?_ (by simp) _)
      exact (Stay.new _ _).alloc _
end Go.Proofs.YtioafeckaeaopaaDoor
