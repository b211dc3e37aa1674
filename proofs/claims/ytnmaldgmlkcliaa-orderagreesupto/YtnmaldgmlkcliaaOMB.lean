/- What the document's Merge leaves: all that is in the lists, sorted. -/
import Derived.Test.YtnmaldgmlkcliaaTD
namespace Go.Proofs.Ytnmaldgmlkcliaa
open Go.RowKit Go.Maps

/-- A list of things as a slice names it. -/
structure Ls where
  a : Option Addr
  b : Nat
  off : Nat
  c : Nat
  ts : List (Int × Int)
def Ls.val (l : Ls) : Value := .slice l.a l.ts.length l.c
/-- It lies there. -/
def Ls.In (w : World) (l : Ls) : Prop := ThS w l.a l.b l.off l.ts ∧ (l.a = none → l.c = 0 ∧ l.ts = [])
theorem Ls.In.stay {w w' : World} {l : Ls} (h : l.In w) (hs : Stay w w') : l.In w' := ⟨h.1.stay hs, h.2⟩
/-- Lists that are named one behind the other. -/
def LsS (w : World) (a : Option Addr) (b off : Nat) (l : List Ls) : Prop :=
  (0 < l.length → a = some ⟨b, off, none⟩) ∧ ∀ j (h : j < l.length), w.cell? ⟨b, off + j, none⟩ = some l[j].val ∧ l[j].In w
theorem LsS.stay {w w' : World} {a : Option Addr} {b off : Nat} {l : List Ls} (h : LsS w a b off l) (hs : Stay w w') : LsS w' a b off l :=
  ⟨h.1, fun j hj => ⟨hs.cell (h.2 j hj).1, (h.2 j hj).2.stay hs⟩⟩
/-- All that is in them. -/
def allL (l : List Ls) : List (Int × Int) := (l.map Ls.ts).flatten
theorem allL_take (l : List Ls) (k : Nat) (h : k < l.length) : allL (l.take (k + 1)) = allL (l.take k) ++ l[k].ts := by
  rw [List.take_succ_eq_append_getElem h]; unfold allL; rw [List.map_append, List.flatten_append]; congr 1; exact List.append_nil _
theorem allL_take_le (l : List Ls) (k : Nat) : (allL (l.take k)).length ≤ (allL l).length := by
  have : allL l = allL (l.take k) ++ allL (l.drop k) := by
    conv => lhs; rw [← List.take_append_drop k l]
    unfold allL
    rw [List.map_append, List.flatten_append]
  rw [this, List.length_append]
  omega

set_option maxRecDepth 100000 in
set_option maxHeartbeats 1000000 in
theorem rmerge_any (w : World) (a : Option Addr) (b off c : Nat) (l : List Ls) (hS : LsS w a b off l) (hn : l.length ≤ 8796093022208) (hl : (allL l).length * 16 ≤ 140737488355328) :
    Calls Try.prog 11 #[.slice a l.length c] w fun e w' => ∃ v, e = .returned v ∧ OwnT w.heap.size w' v (sortR (allL l)) ∧ Stay w w' := by
  have HX : Hid (LsS w a b off l ∧ (allL l).length * 16 ≤ 140737488355328) := ⟨hS, hl⟩
  have hl60 : (l.length : Int) ≤ 8796093022208 := by omega
  clear hS hl hn
  go_enter Try.func11, Try.ntmps11
  go_wp2
  go_loopw [3, 4] (fun v i wr => ∃ k : Nat, k ≤ l.length ∧ i = .int .i64 k ∧ OwnT w.heap.size wr v (allL (l.take k)) ∧ Stay w wr) (fun v i _ => l.length - (intOf i).toNat)
  case atStart => exact ⟨0, Nat.zero_le _, rfl, OwnT.nil, Stay.refl _⟩
  case round =>
    obtain ⟨k, hk, rfl, hown, hst⟩ := hrel
    by_cases hlt : k < l.length
    · have hi1 : (k : Int) < (l.length : Int) := by omega
      obtain rfl := HX.out.1.1 (by omega)
      obtain ⟨hc, hI⟩ := (HX.out.1.stay hst).2 k hlt
      have he := allL_take l k hlt
      have hle := allL_take_le l (k + 1)
      obtain ⟨y, hy⟩ : ∃ y, y = l[k] := ⟨_, rfl⟩
      rw [← hy] at hc hI he
      obtain ⟨ya, yb, yo, yc, ys⟩ := y
      rw [he, List.length_append] at hle
      dsimp only at hle he
      have hr5 := HX.out.2
      obtain ⟨v3, w3, hr, g2, g3, _, _⟩ := append_things 23 hown hI.1 hI.2 (by dsimp only; omega) hst.size
      dsimp only at hr g2
      have HR : Hid ((Builtin.append_ #[23, 23] 23 #[u3, .slice ya ys.length yc]).run Try.prog wr = .ok v3 w3 ∧ OwnT w.heap.size w3 v3 (allL (l.take (k + 1))) ∧ Stay w w3) := ⟨hr, by rw [he]; exact g2, own_grow hst (Nat.le_refl _) hown g3⟩
      have hc2 : wr.cell? ⟨b, off + k, none⟩ = some (.slice ya ys.length yc) := hc
      clear hr g2 g3 hown hst hI he hle hy hr5 hc
      go_wp2_with (at_builtin; refine wpList_append_by rfl (.tmp 11) (.tmp 15) 23 23 rfl _ _ rfl rfl HR.out.1 ?_)
      go_roundw
      case rel => exact ⟨k + 1, by omega, by go_num, HR.out.2.1, HR.out.2.2⟩
      case measure => simp [intOf]; omega
    · have hi1 : ¬ (k : Int) < (l.length : Int) := by omega
      obtain rfl : k = l.length := by omega
      rw [List.take_length] at hown
      obtain ⟨oa, ob, oc, rfl, hoS, _, _, _⟩ := hown.form
      have hs := rsort_any wr oa ob 0 oc (allL l) hoS HX.out.2
      have HS : Hid (Stay w wr) := hst
      clear hown hst hoS
      go_wp2_with fail
      refine hs.mono ?_
      rintro e9 w1 ⟨v9, rfl, h9, hs9⟩
      have HE : Hid (OwnT w.heap.size w1 v9 (sortR (allL l)) ∧ Stay w w1) := ⟨OwnT.mono h9 HS.out.size, HS.out.trans hs9⟩
      clear hs h9 hs9
      go_wp2
      go_ret
      exact ⟨v9, rfl, HE.out.1, HE.out.2⟩
end Go.Proofs.Ytnmaldgmlkcliaa
