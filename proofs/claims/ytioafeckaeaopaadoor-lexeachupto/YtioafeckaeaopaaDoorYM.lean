/- Tokens in memory, one by one; Same of two lists that are alike. -/
import Derived.Test.YtioafeckaeaopaaDoorXX
namespace Go.Proofs.YtioafeckaeaopaaDoor
open Go.RowKit Go.Maps

/-- Tokens in memory: each is four cells. -/
def TkS (w : World) (a : Option Addr) (b : Nat) (ts : List Tok) : Prop :=
  (0 < ts.length → a = some ⟨b, 0, none⟩) ∧ ∀ j (h : j < ts.length), w.cell? ⟨b, j * 4, none⟩ = some (.int .i64 ts[j].kind) ∧ w.cell? ⟨b, j * 4 + 1, none⟩ = some (.string ⟨ts[j].text.toArray⟩) ∧ w.cell? ⟨b, j * 4 + 2, none⟩ = some (.int .i64 (ts[j].at_ : Int)) ∧ w.cell? ⟨b, j * 4 + 3, none⟩ = some (.int .i64 (ts[j].fin : Int))
theorem TkS.stay {w w' : World} {a : Option Addr} {b : Nat} {ts : List Tok} (h : TkS w a b ts) (hs : Stay w w') : TkS w' a b ts :=
  ⟨h.1, fun j hj => ⟨hs.cell (h.2 j hj).1, hs.cell (h.2 j hj).2.1, hs.cell (h.2 j hj).2.2.1, hs.cell (h.2 j hj).2.2.2⟩⟩
theorem cellsK_at : ∀ (ts : List Tok) (j : Nat) (h : j < ts.length), (cellsK ts)[j * 4]? = some (.int .i64 ts[j].kind) ∧ (cellsK ts)[j * 4 + 1]? = some (.string ⟨ts[j].text.toArray⟩) ∧ (cellsK ts)[j * 4 + 2]? = some (.int .i64 (ts[j].at_ : Int)) ∧ (cellsK ts)[j * 4 + 3]? = some (.int .i64 (ts[j].fin : Int))
  | [], _, h => by simp at h
  | t :: ts, 0, _ => by simp [cellsK, Tok.row]
  | t :: ts, j + 1, h => by
    have ih := cellsK_at ts j (by simpa using h)
    have e : cellsK (t :: ts) = Tok.row t ++ cellsK ts := by simp [cellsK]
    have hl : (Tok.row t).length = 4 := rfl
    have sh : ∀ k, (cellsK (t :: ts))[(j + 1) * 4 + k]? = (cellsK ts)[j * 4 + k]? := fun k => by
      rw [e, List.getElem?_append_right (by omega), hl, show (j + 1) * 4 + k - 4 = j * 4 + k by omega]
    have s0 := sh 0
    rw [Nat.add_zero, Nat.add_zero] at s0
    rw [s0, sh 1, sh 2, sh 3]
    exact ih
theorem OwnK.form {base : Nat} {w : World} {v : Value} {ts : List Tok} (h : OwnK base w v ts) : ∃ a b c, v = .slice a ts.length c ∧ TkS w a b ts := by
  have h' := h
  rcases h.2 with ⟨hv, hn⟩ | ⟨b, c, cur, hv, _⟩
  · have h0 : ts = [] := List.eq_nil_of_length_eq_zero hn
    subst h0
    exact ⟨none, 0, 0, hv, fun h => by simp at h, fun j hj => by simp at hj⟩
  · subst hv
    refine ⟨some ⟨b, 0, none⟩, b, c, rfl, fun _ => rfl, fun j hj => ?_⟩
    obtain ⟨k0, k1, k2, k3⟩ := cellsK_at ts j hj
    have f : ∀ (k : Nat) (u : Value), (cellsK ts)[k]? = some u → w.cell? ⟨b, k, none⟩ = some u := fun k u hk => by
      have := World.ownsRow.cells h' (g := b) rfl k u hk
      cases k with
      | zero => simpa [Addr.add] using this
      | succ k => simpa [Addr.add] using this
    exact ⟨f _ _ k0, f _ _ k1, f _ _ k2, f _ _ k3⟩
theorem neqQ (x y : Tok) (w : World) : (binOp .neq 25 (.agg #[.int .i64 x.kind, .string ⟨x.text.toArray⟩, .int .i64 (x.at_ : Int), .int .i64 (x.fin : Int)]) (.agg #[.int .i64 y.kind, .string ⟨y.text.toArray⟩, .int .i64 (y.at_ : Int), .int .i64 (y.fin : Int)])).run Tryd.prog w = .ok (.bool (decide (¬ x = y))) w := by
  obtain ⟨x1, x2, x3, x4⟩ := x
  obtain ⟨y1, y2, y3, y4⟩ := y
  have u3 := Tryd.underlying3
  have a3 := Tryd.isAgg3
  have z3 := Tryd.sizeOf3
  have u9 := Tryd.underlying9
  have a9 := Tryd.isAgg9
  have z9 := Tryd.sizeOf9
  have u23 := Tryd.underlying23
  have a23 := Tryd.isAgg23
  have z23 := Tryd.sizeOf23
  rw [run_neq_struct, show (10000 : Nat) = 9999 + 1 from rfl, run_equalIn_agg w 9999 25 _ _ fieldsK heldK]
  simp only [Program.fieldsOf, Tryd.underlying25]
  go_simp
  by_cases h1 : x1 = y1 <;> by_cases h2 : x2 = y2 <;> by_cases h3 : x3 = y3 <;> by_cases h4 : x4 = y4 <;> simp [h1, h2, h3, h4]
  all_goals omega
theorem neqK0 (x : Tok) (w : World) : (binOp .neq 25 (.agg #[.int .i64 x.kind, .string ⟨x.text.toArray⟩, .int .i64 (x.at_ : Int), .int .i64 (x.fin : Int)]) (.agg #[.int .i64 x.kind, .string ⟨x.text.toArray⟩, .int .i64 (x.at_ : Int), .int .i64 (x.fin : Int)])).run Tryd.prog w = .ok (.bool false) w := by
  rw [neqQ]; simp

set_option maxRecDepth 100000 in
set_option maxHeartbeats 1000000 in
theorem same_yes (w : World) (a1 a2 : Option Addr) (b1 b2 c1 c2 : Nat) (ts : List Tok) (hx : TkS w a1 b1 ts) (hy : TkS w a2 b2 ts) (hl : ts.length ≤ 140737488355328) :
    Calls Tryd.prog 11 #[.slice a1 ts.length c1, .slice a2 ts.length c2] w fun e w' => e = .returned (.bool true) ∧ Stay w w' := by
  have hne : ((ts.length : Int) != (ts.length : Int)) = false := by simp
  have HX : Hid (TkS w a1 b1 ts ∧ TkS w a2 b2 ts) := ⟨hx, hy⟩
  clear hx hy
  go_enter Tryd.func11, Tryd.ntmps11
  go_wp2
  go_loopw [5] (fun i wr => ∃ k : Nat, k ≤ ts.length ∧ i = .int .i64 k ∧ Stay w wr) (fun i _ => ts.length - (intOf i).toNat)
  case atStart => exact ⟨0, Nat.zero_le _, rfl, Stay.refl _⟩
  case round =>
    obtain ⟨k, hk, rfl, hst⟩ := hrel
    by_cases hlt : k < ts.length
    · obtain rfl := HX.out.1.1 (by omega)
      obtain rfl := HX.out.2.1 (by omega)
      obtain ⟨p0, p1, p2, p3⟩ := (HX.out.1.stay hst).2 k hlt
      obtain ⟨q0, q1, q2, q3⟩ := (HX.out.2.stay hst).2 k hlt
      have hi1 : (k : Int) < (ts.length : Int) := by omega
      have HW : Hid (Stay w wr) := hst
      generalize ts[k] = x at p0 p1 p2 p3 q0 q1 q2 q3
      have hg := guardK
      have hn := neqK0 x
      clear hst
      go_wp2
      go_quiet (fail)
      go_wp2
      go_roundw
      case rel => exact ⟨k + 1, by omega, by go_num, HW.out.trans (Stay.drewN _ _)⟩
      case measure => simp [intOf]; omega
    · go_wp2
      go_ret
      exact ⟨rfl, hst⟩
end Go.Proofs.YtioafeckaeaopaaDoor
