/- The document's answers for layer 12: is a name in a list, a literal's terms; a list of records of its own that grows by one. -/
import Derived.Test.YtpnjmldbohecdaaQO
import Derived.Test.YtpnjmldbohecdaaCE
namespace Go.Proofs.Ytpnjmldbohecdaa
open Go.RowKit Go.Maps Go.Shelf

theorem tl_eq (a b : ByteArray) : (a.toList == b.toList) = decide (a = b) := by
  rw [Bool.eq_iff_iff]
  simp only [beq_iff_eq, decide_eq_true_eq]
  constructor
  · intro h
    rw [ByteArray.toList_eq, ByteArray.toList_eq] at h
    exact ByteArray.ext (Array.ext' h)
  · rintro rfl; rfl
theorem own_push {α : Type} {n : Nat} {enc : α → List Value} (he : EncOk n enc) {P : Program} {s t : TypeId} (hu : P.underlying s = some (.slice t)) {z : Value} {bytes : Nat} (hinfo : (P.info? t).map (fun i => (i.zero, i.size, i.bytes)) = some (some z, n, bytes)) (hz : z.cells.size = n)
    {W : World} {v : Value} {xs : List α} {base : Nat} (hown : OwnR t n enc base W v xs) (m : α) (hm : xs.length + 1 ≤ maxLen) (hb : (xs.length + 1) * bytes ≤ 140737488355328) (hbase : base ≤ W.heap.size) (ty : TypeId) :
    ∃ a1 c1 w2, (Builtin.append_ #[s, s] ty #[v, .slice (some ⟨W.heap.size, 0, none⟩) 1 1]).run P (W.alloc (.cells (enc m).toArray t)) = .ok (.slice a1 (xs.length + 1) c1) w2 ∧ OwnR t n enc base w2 (.slice a1 (xs.length + 1) c1) (xs ++ [m]) ∧ Below base W w2 ∧
      (∀ k, k < W.heap.size → v.ownBlock ≠ some k → w2.heap[k]? = W.heap[k]?) ∧ ((Value.slice a1 (xs.length + 1) c1).ownBlock = v.ownBlock ∨ (Value.slice a1 (xs.length + 1) c1).ownBlock = some (W.heap.size + 1)) ∧ W.heap.size < w2.heap.size := by
  have hlit := recs_lit he W [m] t
  rw [show cellsR enc [m] = enc m by simp [cellsR]] at hlit
  obtain ⟨v', w2, hr, ho, hg, _, hat⟩ := append_recs (P := P) (ty := ty) he hu hinfo hz (hown.alloc (.cells (enc m).toArray t)) hlit (c := 1) (fun h => nomatch h) (by simpa using hm) (by simpa using hb) (by rw [World.size_alloc]; omega)
  obtain ⟨a1, b1, k1, rfl, -⟩ := ho.form he
  rw [List.length_append, List.length_singleton] at hr ho hat
  have hblk : ∀ k, k < W.heap.size → v.ownBlock ≠ some k → w2.heap[k]? = W.heap[k]? := fun k hk hn => (hg.block k (by rw [World.size_alloc]; omega) (fun e => hn e.symm)).trans (Below.heap_alloc _ _ _ hk)
  have hsz := hg.size
  rw [World.size_alloc] at hsz hat
  exact ⟨a1, k1, w2, hr, ho, ⟨hg.os, hg.tape, hg.output, by omega, fun k hk => hblk k (by omega) (fun e => by have := (hown.lt k e).1; omega)⟩, hblk, hat, by omega⟩

def encSt (s : ByteArray) : List Value := [.string s]
theorem encStOk : EncOk 1 encSt := ⟨fun _ => rfl, fun _ u hu => by simp [encSt] at hu; subst hu; rfl, by decide⟩
theorem infoSt : (Try.prog.info? 9).map (fun i => (i.zero, i.size, i.bytes)) = some (some (.string ⟨#[]⟩), 1, 16) := by kernel_rfl
def encP (p : Int × ByteArray) : List Value := [.int .i64 p.1, .string p.2]
theorem encPOk : EncOk 2 encP := ⟨fun _ => rfl, fun _ u hu => by simp [encP] at hu; rcases hu with rfl | rfl <;> rfl, by decide⟩
theorem infoP : (Try.prog.info? 75).map (fun i => (i.zero, i.size, i.bytes)) = some (some (.agg #[.int .i64 0, .string ⟨#[]⟩]), 2, 24) := by kernel_rfl

theorem OwnR.base {α : Type} {t : TypeId} {n : Nat} {enc : α → List Value} {b0 base : Nat} {w : World} {v : Value} {xs : List α} (h : OwnR t n enc base w v xs) (hb : b0 ≤ base) : OwnR t n enc b0 w v xs := by
  refine ⟨h.1, ?_⟩
  rcases h.2 with hx | ⟨b, c, cur, hv, hbb, rest⟩
  · exact .inl hx
  · exact .inr ⟨b, c, cur, hv, Nat.le_trans hb hbb, rest⟩
theorem OwnR.held {α : Type} {t : TypeId} {n : Nat} {enc : α → List Value} {base : Nat} {w w' : World} {v : Value} {xs : List α} (h : OwnR t n enc base w v xs) (hb : ∀ k, v.ownBlock = some k → w'.heap[k]? = w.heap[k]?) : OwnR t n enc base w' v xs := by
  refine ⟨h.1, ?_⟩
  rcases h.2 with hx | ⟨b, c, cur, hv, hbb, hh, rest⟩
  · exact .inl hx
  · exact .inr ⟨b, c, cur, hv, hbb, (hb b (by rw [hv]; rfl)).trans hh, rest⟩
/-- A list that was made anew. -/
def NewR {α : Type} (t : TypeId) (n : Nat) (enc : α → List Value) (w : World) (xs : List α) (e : Ending) (w' : World) : Prop := ∃ a c, e = .returned (.slice a xs.length c) ∧ OwnR t n enc w.heap.size w' (.slice a xs.length c) xs ∧ Stay w w'

--@has@
set_option maxRecDepth 100000 in
theorem has_any (w : World) (a : Option Addr) (b off c : Nat) (xs : List ByteArray) (s : ByteArray) (h : RecS 1 encSt w a b off xs) (hn : xs.length ≤ 4398046511104) : Calls Try.prog 31 #[.slice a xs.length c, .string s] w fun e w' => e = .returned (.bool (inB xs s)) ∧ w' = w := by
  have HR : Hid (RecS 1 encSt w a b off xs) := h
  obtain ⟨rv, hrv⟩ : ∃ rv, rv = inB xs s := ⟨_, rfl⟩
  rw [← hrv]
  have HV : Hid (rv = inB xs s) := hrv
  clear h hrv
  go_enter Try.func31, Try.ntmps31
  go_wp2
  go_loopw [5] (fun u wr => ∃ j : Nat, j ≤ xs.length ∧ u = .int .i64 (j : Int) ∧ inB (xs.take j) s = false ∧ wr = w) (fun u _ => xs.length - (intOf u).toNat)
  case atStart => exact ⟨0, Nat.zero_le _, rfl, by simp [inB], rfl⟩
  case round =>
    obtain ⟨j, hj, rfl, hno, hwr⟩ := hrel
    subst wr
    by_cases hlt : j < xs.length
    · have hki : (j : Int) < (xs.length : Int) := by omega
      obtain rfl := HR.out.1 (by omega)
      have c0 := HR.out.2 j hlt 0 _ rfl
      rw [Nat.mul_one, Nat.add_zero] at c0
      have htk : inB (xs.take (j + 1)) s = (inB (xs.take j) s || s == xs[j]) := by rw [List.take_add_one, List.getElem?_eq_getElem hlt]; exact inB_snoc _ _ _
      have HM : Hid (xs[j] ∈ xs) := List.getElem_mem hlt
      have HT : Hid (inB (xs.take (j + 1)) s = (s == xs[j])) := by show _ = _; rw [htk, hno]; simp
      clear hno htk
      generalize xs[j] = x at *
      by_cases he : x = s
      · have hbeq : (x.toList == s.toList) = true := by rw [tl_eq]; simpa using he
        have HX : Hid (rv = true) := by show _ = _; rw [HV.out]; exact (inB_iff _ _).2 (he ▸ HM.out)
        clear he
        go_wp2
        go_ret
        exact ⟨by rw [HX.out]; rfl, rfl⟩
      · have hbeq : (x.toList == s.toList) = false := by rw [tl_eq]; simpa using he
        have HX : Hid (inB (xs.take (j + 1)) s = false) := by show _ = _; rw [HT.out]; simpa using Ne.symm he
        clear he HT
        go_wp2
        go_roundw
        case rel => exact ⟨j + 1, by omega, by simp, HX.out, by first | rfl | trivial⟩
        case measure => simp [intOf]; omega
    · obtain rfl : j = xs.length := by omega
      have HX : Hid (rv = false) := by show _ = _; rw [HV.out, ← hno, List.take_of_length_le (Nat.le_refl _)]
      clear hno
      go_wp2
      go_ret
      exact ⟨by rw [HX.out]; rfl, rfl⟩
--@end@

theorem args_any (x : Li) (w : World) (hM : x.atom.In w) (hk : (Lit.int .i64 x.kind).wf = true) : Calls Try.prog 37 #[x.v] w (TermsAt x w) := by
  obtain ⟨kind, ⟨pred, a, b, off, cap, ts⟩, ⟨lv, lt⟩, ⟨rv, rt⟩⟩ := x
  unfold At.In at hM
  dsimp only [Li.v, At.sl] at *
  by_cases h1 : kind = 1
  · subst h1
    go_enter Try.func37, Try.ntmps37
    go_wp2
    go_ret
    exact ⟨a, b, off, cap, rfl, by simpa [Li.terms] using hM.stay (Stay.new _ _), fun h => .inl ⟨rfl, by simpa [Li.terms] using h⟩, Stay.new _ _⟩
  · by_cases h2 : kind = 2
    · subst h2
      go_enter Try.func37, Try.ntmps37
      go_wp2
      go_ret
      exact ⟨a, b, off, cap, rfl, by simpa [Li.terms] using hM.stay (Stay.new _ _), fun h => .inl ⟨rfl, by simpa [Li.terms] using h⟩, Stay.new _ _⟩
    · by_cases h3 : kind = 3
      · subst h3
        go_enter Try.func37, Try.ntmps37
        go_wp2
        go_ret
        refine ⟨_, w.heap.size + 1, 0, 2, rfl, ?_, fun _ => .inr ⟨by omega, by simp, #[.bool lv, .string lt, .bool rv, .string rt], (0, 0), ?_⟩, (Stay.new _ _).alloc _⟩
        · have := tms_two (w.alloc (.cells #[.int .i64 3, .string pred, .slice a ts.length cap, .bool lv, .string lt, .bool rv, .string rt] 53)) lv rv lt rt 51
          rw [World.size_alloc] at this
          exact this
        · have := heap_new (w.alloc (.cells #[.int .i64 3, .string pred, .slice a ts.length cap, .bool lv, .string lt, .bool rv, .string rt] 53)) (.cells #[.bool lv, .string lt, .bool rv, .string rt] 51)
          rw [World.size_alloc] at this
          exact this
      · have e1 : (kind == 1) = false := by simpa using h1
        have e2 : (kind == 2) = false := by simpa using h2
        have e3 : (kind == 3) = false := by simpa using h3
        go_enter Try.func37, Try.ntmps37
        go_wp2
        go_ret
        have ht : Li.terms ⟨kind, ⟨pred, a, b, off, cap, ts⟩, ⟨lv, lt⟩, ⟨rv, rt⟩⟩ = [] := by simp [Li.terms, h1, h2, h3]
        unfold TermsAt
        rw [ht]
        exact ⟨none, 0, 0, 0, rfl, TmsS.nil _ _ _ _, fun h => absurd h (Nat.lt_irrefl _), Stay.new _ _⟩
end Go.Proofs.Ytpnjmldbohecdaa
