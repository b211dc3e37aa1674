/- Merge: what lies in memory between two steps; what a Pop and a pushRest leave. -/
import Derived.Test.YtnmaldgmlkcliaaOMF
import Derived.Test.YtnmaldgmlkcliaaOME
import Derived.Test.YtnmaldgmlkcliaaGJp
namespace Go.Proofs.Ytnmaldgmlkcliaa.HH
open Go.RowKit Go.Maps Go.Shelf Go.Sort Go.Proofs.Ytnmaldgmlkcliaa

theorem th_size (W : World) : (sizeOf (Try.prog.elem 23)).run Try.prog W = .ok 2 W ∧ Try.prog.underlying 23 = some (.slice (Try.prog.elem 23)) := by
  obtain ⟨i, hi, hz0, hz1, hz2⟩ := info_parts infoTh
  have he : Try.prog.elem 23 = 26 := by simp [Program.elem, Try.underlying23]
  rw [he]
  exact ⟨by simp [sizeOf, typeInfo, hi, hz1], Try.underlying23⟩
theorem run_mk0 (n : Nat) (hn : 16 * n ≤ 281474976710656) (W : World) :
    (Instr.makeSlice 23 (.int .i64 0) (.int .i64 n)).run Try.prog W = .ok (.slice (some ⟨W.heap.size, 0, none⟩) 0 n) (W.alloc (.cells (madeCells #[.int .i64 0, .int .i64 0] (n * 2)) 26)) := by
  obtain ⟨i, hi, hz0, hz1, hz2⟩ := info_parts infoTh
  have h := run_make (P := Try.prog) W 23 26 i _ Try.underlying23 hi hz0 .i64 .i64 0 n (by omega) (by omega) (by rw [hz2]; omega) (by omega)
  rw [hz1] at h
  simpa [Value.cells] using h
theorem own_mk0 (n : Nat) (hn : n ≤ maxLen) (w : World) : OwnT w.heap.size (w.alloc (.cells (madeCells #[.int .i64 0, .int .i64 0] (n * 2)) 26)) (.slice (some ⟨w.heap.size, 0, none⟩) 0 n) [] :=
  ⟨rfl, .inr ⟨w.heap.size, n, _, rfl, Nat.le_refl _, heap_alloc_new _ _, Nat.zero_le _, hn, size_madeCells _ _, by simp [cellsT]⟩⟩
/-- l[1:]. -/
theorem cut_rest {b off n c : Nat} (hc : n + 1 ≤ c) : ∃ ad, (∀ W, (Instr.slice 23 (.slice (some ⟨b, off, none⟩) (n + 1) c) (some (.int .i64 1)) none none).run Try.prog W = .ok (.slice (some ad) n (c - 1)) W) ∧ (0 < n → ad = ⟨b, off + 2, none⟩) := by
  refine ⟨if c = 1 then ⟨b, off, none⟩ else ⟨b, off + 2, none⟩, fun W => ?_, fun h => by rw [if_neg (by omega)]⟩
  have hs := th_size W
  rw [run_slice_l W 23 _ _ _ hs.2 .i64 1 (by omega) (by omega), hs.1]
  simp only [sliced, Result.andThen]
  by_cases e : c = 1
  · simp [e]
  · simp [e, add_at]
def lenS : Value → Nat
  | .slice _ n _ => n
  | _ => 0

set_option maxRecDepth 100000 in
set_option maxHeartbeats 1000000 in
theorem rest_push {w : World} {hb turns : Nat} {fv v : Value} {came : List E} {cf : Hd → Hd → Int} (hf : Fv fv cf) (h : Hp w hb fv v turns came) (hh : IsHeap (ahd cf) came) (x : Hd) (hin : ∃ xb, fv = headV xb ∧ x.In w xb) (hsz : (came.length + 1) * 40 ≤ 140737488355328) (htn : turns ≤ 140737488355328) :
    Calls Try.prog 26 #[.pointer (some ⟨hb, 0, none⟩), .agg #[.slice x.a x.n x.c, .int .i64 (x.i : Int)]] w fun e w' => e = .returned (.tuple #[]) ∧ ∃ v' came', came'.Perm (came ++ [(x, turns)]) ∧ IsHeap (ahd cf) came' ∧ Hp w' hb fv v' (turns + 1) came' ∧ Turn (foot hb v) w w' ∧ (∀ k, foot hb v' k → foot hb v k ∨ w.heap.size ≤ k) := by
  obtain ⟨xa, xn, xc, xi, xx⟩ := x
  have hn : 0 < xn := by obtain ⟨_, _, _, _, _, _, h3, _⟩ := hin; exact h3
  have hn1 : (0 : Int) < (xn : Int) := by omega
  have hp := push_any hf (h.stay (Stay.new w (.cells #[.slice xa xn xc, .int .i64 (xi : Int)] 47))) hh ⟨xa, xn, xc, xi, xx⟩ (by obtain ⟨xb, h1, h2⟩ := hin; exact ⟨xb, h1, h2.turn (S := fun _ => False) (Turn.of_stay (Stay.new _ _)) (fun _ _ => id)⟩) hsz htn
  dsimp only at hp ⊢
  clear h hf hin hh
  go_enter Try.func26, Try.ntmps26
  go_wp2_with fail
  refine hp.mono ?_
  rintro e9 w1 ⟨rfl, v', came', h1, h2, h3, h4, h5⟩
  have HE : Hid (came'.Perm (came ++ [(⟨xa, xn, xc, xi, xx⟩, turns)]) ∧ IsHeap (ahd cf) came' ∧ Hp w1 hb fv v' (turns + 1) came' ∧ Turn (foot hb v) w w1 ∧ (∀ k, foot hb v' k → foot hb v k ∨ w.heap.size ≤ k)) := ⟨h1, h2, h3, (Turn.of_stay (Stay.new _ _)).trans h4, fun k hk => (h5 k hk).imp id (fun h => by rw [World.size_alloc] at h; omega)⟩
  clear h1 h2 h3 h4 h5 hp
  go_wp2
  go_end0
  exact ⟨rfl, v', came', HE.out⟩

/-- Between two steps: the heap of heads, and what is out. -/
structure Ms (w : World) (hb : Nat) (wr : World) (v9 : Value) (out : List (Int × Int)) (v : Value) (turns : Nat) (came : List E) : Prop where
  stay : Stay w wr
  hp : Hp wr hb (headV w.heap.size) v turns came
  heap : IsHeap (ahd hdC) came
  far : ∀ k, foot hb v k → w.heap.size < k
  own : OwnT (w.heap.size + 1) wr v9 out
  off : ∀ k, v9.ownBlock = some k → ¬ foot hb v k
section
variable {w wr wr' : World} {hb turns : Nat} {v9 v : Value} {out : List (Int × Int)} {came : List E}
theorem fv_ok (xb : Nat) : Fv (headV xb) hdC := ⟨⟨xb, rfl⟩, rfl⟩
theorem Ms.go (h : Ms w hb wr v9 out v turns came) (hs : Stay wr wr') : Ms w hb wr' v9 out v turns came :=
  ⟨h.stay.trans hs, h.hp.stay hs, h.heap, h.far, h.own.stay hs, h.off⟩
theorem Ms.size (h : Ms w hb wr v9 out v turns came) : w.heap.size + 1 < wr.heap.size := by
  have h1 := h.far hb (.inl rfl)
  have h2 := h.hp.lt hb (.inl rfl)
  omega
/-- What neither the heap nor the list has may be written. -/
theorem Ms.other (h : Ms w hb wr v9 out v turns came) {fb : Nat} (ht : Turn (fun k => k = fb) wr wr') (h1 : w.heap.size < fb) (h2 : ¬ foot hb v fb) (h3 : v9.ownBlock ≠ some fb) : Ms w hb wr' v9 out v turns came :=
  ⟨ht.stay h.stay (fun k hk e => by omega), h.hp.turn ht (fun k hk e => h2 (e ▸ hk)) (fun xb e k hk e2 => by have := headV_inj e; omega), h.heap, h.far, h.own.turn ht (fun k hk e => h3 (e ▸ hk)), h.off⟩
/-- One thing more is out. -/
theorem Ms.add (h : Ms w hb wr v9 out v turns came) (x1 x2 : Int) (hb2 : (out.length + 1) * 16 ≤ 140737488355328) :
    ∃ v' W', (Builtin.append_ #[23, 23] 23 #[v9, .slice (some ⟨wr.heap.size, 0, none⟩) 1 1]).run Try.prog (wr.alloc (.cells #[.int .i64 x1, .int .i64 x2] 26)) = .ok v' W' ∧ Ms w hb W' v' (out ++ [(x1, x2)]) v turns came ∧ Turn (fun k => v9.ownBlock = some k) wr W' ∧ (∀ k, v'.ownBlock = some k → v9.ownBlock = some k ∨ wr.heap.size ≤ k) ∧ ∃ a m c, v' = .slice a m c := by
  obtain ⟨v', W', hr, h2, h3, h4, h5⟩ := append_thing 23 h.own x1 x2 hb2 (by have := h.size; omega)
  have hT : Turn (fun k => v9.ownBlock = some k) wr W' := (Turn.of_stay (Stay.new wr _)).trans ⟨h3.os, h3.tape, h3.output, h3.size, fun k hk hn => h3.block k hk (fun e => hn e.symm)⟩
  have hv : ∀ k, v'.ownBlock = some k → v9.ownBlock = some k ∨ wr.heap.size ≤ k := fun k hk => by
    rcases h5 with e | e
    · rw [e] at hk; exact .inl hk
    · rw [e] at hk; have := Option.some.inj hk; exact .inr (by omega)
  refine ⟨v', W', hr, ⟨hT.stay h.stay (fun k hk e => by have := (h.own.lt k e).1; omega), h.hp.turn hT (fun k hk e => h.off k e hk) (fun xb e k hk e2 => by have := headV_inj e; have := (h.own.lt k e2).1; omega), h.heap, h.far, h2, fun k hk hf => ?_⟩, hT, hv, ?_⟩
  · rcases hv k hk with e | e
    · exact h.off k e hf
    · have := h.hp.lt k hf; omega
  · rcases h2.2 with ⟨e, _⟩ | ⟨g, cap, cur, e, _⟩ <;> exact ⟨_, _, _, e⟩
/-- What a heap's own call leaves. -/
theorem Ms.turned (h : Ms w hb wr v9 out v turns came) {v' : Value} {turns' : Nat} {came' : List E} (h1 : Hp wr' hb (headV w.heap.size) v' turns' came') (h2 : IsHeap (ahd hdC) came') (ht : Turn (foot hb v) wr wr') (hf : ∀ k, foot hb v' k → foot hb v k ∨ wr.heap.size ≤ k) : Ms w hb wr' v9 out v' turns' came' := by
  have hz := h.size
  refine ⟨ht.stay h.stay (fun k hk e => by have := h.far k e; omega), h1, h2, fun k hk => ?_, h.own.turn ht h.off, fun k hk e => ?_⟩
  · rcases hf k hk with e | e
    · exact h.far k e
    · omega
  · rcases hf k e with e | e
    · exact h.off k hk e
    · have := (h.own.lt k hk).2; omega
/-- What came out, and what is left. -/
def PopR (l : List Ls) (rs : List (List (Int × Int))) (came' : List E) (ok : Bool) (xa : Option Addr) (xn xc : Nat) (yi : Int) : Prop :=
  ok = true ∧ (∃ (came : List E) (i p : Nat) (L : Ls) (t : Nat), ((hdAt L i p, t) :: came').Perm came ∧ Fro l l.length rs came ∧ l[i]? = some L ∧ p < L.ts.length ∧ rs[i]? = some (L.ts.drop p) ∧ (∀ e' ∈ came, ahd hdC e' (hdAt L i p, t) = false) ∧ xa = some ⟨L.b, L.off + p * 2, none⟩ ∧ xn = L.ts.length - p ∧ xc = L.c - p ∧ yi = (i : Int)) ∨ ok = false ∧ ∀ r ∈ rs, r = []
/-- What a Pop answers. -/
def PopQ (w : World) (hb : Nat) (l : List Ls) (wr : World) (v9 : Value) (out : List (Int × Int)) (v : Value) (turns : Nat) (rs : List (List (Int × Int))) (e' : Ending) (w' : World) : Prop :=
  ∃ (xa : Option Addr) (xn xc : Nat) (yi : Int) (ok : Bool) (v' : Value) (came' : List E), e' = .returned (.tuple #[.agg #[.slice xa xn xc, .int .i64 yi], .bool ok]) ∧ Ms w hb w' v9 out v' turns came' ∧ Turn (foot hb v) wr w' ∧ (∀ k, foot hb v' k → foot hb v k) ∧
    PopR l rs came' ok xa xn xc yi
theorem Ms.pop (h : Ms w hb wr v9 out v turns came) {l : List Ls} {rs : List (List (Int × Int))} (hF : Fro l l.length rs came) (hsz : came.length ≤ 1152921504606846976) :
    Calls Try.prog 27 #[.pointer (some ⟨hb, 0, none⟩)] wr (PopQ w hb l wr v9 out v turns rs) := by
  cases hc : came with
  | nil =>
    subst hc
    refine (pop_none h.hp).mono fun e' w' ⟨he, hs⟩ => ?_
    refine ⟨none, 0, 0, 0, false, v, [], he, h.go hs, Turn.of_stay hs, fun _ hk => hk, .inr ⟨rfl, fun r hr => ?_⟩⟩
    obtain ⟨i, hi, rfl⟩ := List.mem_iff_getElem.1 hr
    cases hx : rs[i] with
    | nil => rfl
    | cons x r =>
      obtain ⟨e, he2, _⟩ := hF.all i x r (by rw [← hF.len]; exact hi) (by rw [List.getElem?_eq_getElem hi, hx])
      simp at he2
  | cons e came1 =>
    have he0 : came[0]? = some e := by rw [hc]; rfl
    have hmem : e ∈ came := by rw [hc]; exact List.mem_cons_self
    refine (pop_some (fv_ok _) h.hp h.heap e he0 hsz).mono fun e' w' ⟨he, v', came', hp, hh, hH, hT, hf⟩ => ?_
    obtain ⟨hlt, L, p, q1, q2, q3, q4⟩ := hF.names e hmem
    have hleast := heap_least (ahd_ok (fv_ok w.heap.size)) h.heap he0
    refine ⟨e.1.a, e.1.n, e.1.c, (e.1.i : Int), true, v', came', he, h.turned hH hh hT (fun k hk => .inl (hf k hk)), hT, hf, .inl ⟨rfl, came, e.1.i, p, L, e.2, ?_, hF, q1, q2, q3, fun e2 he2 => ?_, ?_, ?_, ?_, rfl⟩⟩
    · have : (hdAt L e.1.i p, e.2) = e := by rw [← q4]
      rw [this]; exact hp
    · obtain ⟨k, hk, rfl⟩ := List.mem_iff_getElem.1 he2
      have := hleast k _ (List.getElem?_eq_getElem hk)
      have e3 : (hdAt L e.1.i p, e.2) = e := by rw [← q4]
      rw [e3]; exact this
    · rw [q4]; rfl
    · rw [q4]; rfl
    · rw [q4]; rfl
/-- What a pushRest leaves. -/
def RestQ (w : World) (hb : Nat) (l : List Ls) (wr : World) (v9 : Value) (out : List (Int × Int)) (v : Value) (turns : Nat) (rs : List (List (Int × Int))) (e' : Ending) (w' : World) : Prop :=
  e' = .returned (.tuple #[]) ∧ ∃ (v' : Value) (turns' : Nat) (came' : List E), Ms w hb w' v9 out v' turns' came' ∧ Fro l l.length rs came' ∧ turns' ≤ turns + 1 ∧ Turn (foot hb v) wr w' ∧ (∀ k, foot hb v' k → foot hb v k ∨ wr.heap.size ≤ k)
theorem nodup_but (m : Nat) : ∀ l : List Nat, l.Nodup → l.length ≤ (l.filter fun x => decide (x ≠ m)).length + 1
  | [], _ => by simp
  | x :: l, h => by
    obtain ⟨h1, h2⟩ := List.nodup_cons.1 h
    by_cases e : x = m
    · subst e
      have : l.filter (fun y => decide (y ≠ x)) = l := List.filter_eq_self.2 (fun y hy => decide_eq_true (fun e => h1 (e ▸ hy)))
      rw [List.filter_cons_of_neg (by simp), this, List.length_cons]
      omega
    · have := nodup_but m l h2
      rw [List.filter_cons_of_pos (by simp [e]), List.length_cons, List.length_cons]
      omega
theorem nodup_le : ∀ (m : Nat) (l : List Nat), l.Nodup → (∀ x ∈ l, x < m) → l.length ≤ m
  | 0, l, _, h => by
    cases l with
    | nil => simp
    | cons x l => have := h x (by simp); omega
  | m + 1, l, hn, h => by
    have h1 := nodup_le m (l.filter fun x => decide (x ≠ m)) (hn.sublist (List.filter_sublist)) (fun x hx => by
      obtain ⟨h2, h3⟩ := List.mem_filter.1 hx
      have := h x h2
      have := of_decide_eq_true h3
      omega)
    have := nodup_but m l hn
    omega
theorem fro_len {l : List Ls} {m : Nat} {rs : List (List (Int × Int))} (h : Fro l m rs came) : came.length ≤ m := by
  have := nodup_le m (came.map fun e => e.1.i) h.once (fun x hx => by
    obtain ⟨e, he, rfl⟩ := List.mem_map.1 hx
    exact (h.names e he).1)
  simpa using this
theorem Ms.rest {came' : List E} (h : Ms w hb wr v9 out v turns came') {l : List Ls} {rs : List (List (Int × Int))} {i p t : Nat} {L : Ls} (hperm : ((hdAt L i p, t) :: came').Perm came) (hF : Fro l l.length rs came) (hL : l[i]? = some L) (hp : p < L.ts.length) (hin : L.In wr) (hb2 : L.b ≤ w.heap.size) (hcap : L.ts.length ≤ L.c) (hl : l.length ≤ 1048576) (htn : turns ≤ 4194304) :
    ∃ ra rn rc, (∀ W, (Instr.slice 23 (.slice (some ⟨L.b, L.off + p * 2, none⟩) (L.ts.length - p) (L.c - p)) (some (.int .i64 1)) none none).run Try.prog W = .ok (.slice ra rn rc) W) ∧ ∀ V, Stay wr V → Calls Try.prog 26 #[.pointer (some ⟨hb, 0, none⟩), .agg #[.slice ra rn rc, .int .i64 (i : Int)]] V (RestQ w hb l V v9 out v turns (rs.set i (L.ts.drop (p + 1)))) := by
  obtain ⟨n, hn⟩ : ∃ n, L.ts.length - p = n + 1 := ⟨L.ts.length - p - 1, by omega⟩
  obtain ⟨ad, hcut, had⟩ := cut_rest (b := L.b) (off := L.off + p * 2) (n := n) (c := L.c - p) (by omega)
  rw [hn]
  refine ⟨some ad, n, L.c - p - 1, hcut, fun V hV => ?_⟩
  replace h := h.go hV
  replace hin := hin.stay hV
  by_cases h0 : 0 < n
  · have hlen : came'.length ≤ 1048576 := by
      have h1 := fro_len hF
      have h2 := hperm.length_eq
      simp only [List.length_cons] at h2
      omega
    have hpu := rest_push (fv_ok w.heap.size) h.hp h.heap (hdAt L i (p + 1)) ⟨_, rfl, hdAt_in hin (by omega) hb2⟩ (by omega) (by omega)
    have e : (hdAt L i (p + 1)).a = some ad ∧ (hdAt L i (p + 1)).n = n ∧ (hdAt L i (p + 1)).c = L.c - p - 1 ∧ (hdAt L i (p + 1)).i = i := by
      refine ⟨?_, ?_, ?_, rfl⟩
      · rw [had h0]; show some (⟨L.b, L.off + (p + 1) * 2, none⟩ : Addr) = _; congr 2; omega
      · show L.ts.length - (p + 1) = n; omega
      · show L.c - (p + 1) = _; omega
    rw [e.1, e.2.1, e.2.2.1, e.2.2.2] at hpu
    refine hpu.mono fun e' w' ⟨he, v', came'', h1, h2, h3, h4, h5⟩ => ⟨he, v', turns + 1, came'', h.turned h3 h2 h4 h5, ?_, Nat.le_refl _, h4, h5⟩
    exact hF.back (e := (hdAt L i p, t)) hperm hL (by omega) h1
  · obtain rfl : n = 0 := by omega
    refine (rest_none hb (some ad) (L.c - p - 1) (i : Int) V).mono fun e' w' ⟨he, hs⟩ => ⟨he, v, turns, came', h.go hs, ?_, Nat.le_succ _, Turn.of_stay hs, fun k hk => .inl hk⟩
    exact hF.out (e := (hdAt L i p, t)) hperm (List.drop_eq_nil_of_le (by omega))
/-- The first world with a heap. -/
theorem Ms.first (w : World) : Ms w (w.heap.size + 1) ((w.alloc (.cells #[.func (.func 9) #[] #[]] 29)).alloc (.cells #[headV w.heap.size, .slice none 0 0, .int .i64 0] 72)) (.slice none 0 0) [] (.slice none 0 0) 0 [] := by
  have hc : (w.alloc (.cells #[.func (.func 9) #[] #[]] 29)).cell? ⟨w.heap.size, 0, none⟩ = some (.func (.func 9) #[] #[]) := by simp
  have hH : Held hdC _ _ _ _ _ _ _ := held_new w.heap.size _ hc
  rw [World.size_alloc] at hH
  refine ⟨(Stay.new _ _).trans (Stay.new _ _), hH.hp, hH.heap, fun k hk => ?_, OwnT.nil, fun k hk => by simp [Value.ownBlock] at hk⟩
  rcases hk with rfl | hk
  · omega
  · simp [Value.ownBlock] at hk
/-- One list goes in. -/
def LoadQ (w : World) (hb : Nat) (l : List Ls) (k turns : Nat) (e' : Ending) (w' : World) : Prop :=
  e' = .returned (.tuple #[]) ∧ ∃ (v' : Value) (turns' : Nat) (came' : List E), Ms w hb w' (.slice none 0 0) [] v' turns' came' ∧ Fro l (k + 1) (l.map Ls.ts) came' ∧ turns' ≤ turns + 1
theorem Ms.load (h : Ms w hb wr (.slice none 0 0) [] v turns came) {l : List Ls} {k : Nat} {L : Ls} (hF : Fro l k (l.map Ls.ts) came) (hL : l[k]? = some L) (hin : L.In wr) (hb2 : 0 < L.ts.length → L.b ≤ w.heap.size) (hk : k ≤ 1048576) (htn : turns ≤ 4194304) :
    Calls Try.prog 26 #[.pointer (some ⟨hb, 0, none⟩), .agg #[.slice L.a L.ts.length L.c, .int .i64 (k : Int)]] wr (LoadQ w hb l k turns) := by
  have hrs : (l.map Ls.ts)[k]? = some L.ts := by rw [List.getElem?_map, hL]; rfl
  by_cases h0 : 0 < L.ts.length
  · have hlen := fro_len hF
    have hpu := rest_push (fv_ok w.heap.size) h.hp h.heap (hdAt L k 0) ⟨_, rfl, hdAt_in hin h0 (hb2 h0)⟩ (by omega) (by omega)
    have e : (hdAt L k 0).a = L.a ∧ (hdAt L k 0).n = L.ts.length ∧ (hdAt L k 0).c = L.c ∧ (hdAt L k 0).i = k := by
      refine ⟨?_, rfl, rfl, rfl⟩
      rw [hin.1.1 h0]; rfl
    rw [e.1, e.2.1, e.2.2.1, e.2.2.2] at hpu
    refine hpu.mono fun e' w' ⟨he, v', came'', h1, h2, h3, h4, h5⟩ => ⟨he, v', turns + 1, came'', h.turned h3 h2 h4 h5, hF.push hL hrs h0 turns h1, Nat.le_refl _⟩
  · have hn : L.ts = [] := List.eq_nil_of_length_eq_zero (by omega)
    rw [hn]
    refine (rest_none hb L.a L.c (k : Int) wr).mono fun e' w' ⟨he, hs⟩ => ⟨he, v, turns, came, h.go hs, hF.skip (by rw [hrs, hn]), Nat.le_succ _⟩
/-- The list that is to be. -/
theorem Ms.make (h : Ms w hb wr (.slice none 0 0) [] v turns came) (N : Nat) (hN : N ≤ 1048576) : Ms w hb (wr.alloc (.cells (madeCells #[.int .i64 0, .int .i64 0] (N * 2)) 26)) (.slice (some ⟨wr.heap.size, 0, none⟩) 0 N) [] v turns came := by
  have h1 := h.go (Stay.new wr (.cells (madeCells #[.int .i64 0, .int .i64 0] (N * 2)) 26))
  have hz := h.size
  refine ⟨h1.stay, h1.hp, h1.heap, h1.far, (own_mk0 N (by unfold maxLen; omega) wr).mono (by omega), fun k hk hf => ?_⟩
  have := h.hp.lt k hf
  simp only [Value.ownBlock, Option.some.injEq] at hk
  omega
/-- Between two rounds. -/
def MI (w : World) (hb : Nat) (l : List Ls) (v9 p ok : Value) (wr : World) : Prop :=
  ∃ (fb : Nat) (out : List (Int × Int)) (rs : List (List (Int × Int))) (v : Value) (turns : Nat) (came' : List E) (xa : Option Addr) (xn xc : Nat) (yi : Int) (okb : Bool), p = .pointer (some ⟨fb, 0, none⟩) ∧ ok = .bool okb ∧ Ms w hb wr v9 out v turns came' ∧ Mg (fun x => x.1) (allL l) out rs ∧ turns ≤ l.length + out.length ∧ wr.heap[fb]? = some (.cells #[.slice xa xn xc, .int .i64 yi] 47 (0, 0)) ∧ w.heap.size < fb ∧ ¬ foot hb v fb ∧ v9.ownBlock ≠ some fb ∧ PopR l rs came' okb xa xn xc yi
/-- The box behind a Pop. -/
theorem MI.first {l : List Ls} {rs : List (List (Int × Int))} {xa : Option Addr} {xn xc : Nat} {yi : Int} {ok : Bool} (h : Ms w hb wr v9 out v turns came) (hM : Mg (fun x => x.1) (allL l) out rs) (ht : turns ≤ l.length + out.length) (hP : PopR l rs came ok xa xn xc yi) : MI w hb l v9 (.pointer (some ⟨wr.heap.size, 0, none⟩)) (.bool ok) (wr.alloc (.cells #[.slice xa xn xc, .int .i64 yi] 47)) := by
  have hz := h.size
  refine ⟨wr.heap.size, out, rs, v, turns, came, xa, xn, xc, yi, ok, rfl, rfl, h.go (Stay.new _ _), hM, ht, heap_alloc_new _ _, by omega, fun hf => ?_, fun e => ?_, hP⟩
  · have := h.hp.lt _ hf; omega
  · have := (h.own.lt _ e).2; omega
theorem box2 {W : World} {fb : Nat} {x y : Value} (h : W.heap[fb]? = some (.cells #[x, y] 47 (0, 0))) : W.cell? ⟨fb, 0, none⟩ = some x ∧ W.cell? ⟨fb, 1, none⟩ = some y ∧ (∀ j, W.frozen? ⟨fb, j, none⟩ = false) ∧ fb < W.heap.size :=
  ⟨by simp [World.cell?, h], by simp [World.cell?, h], fun j => by simp [World.frozen?, h], (Array.getElem?_eq_some_iff.1 h).1⟩
theorem box2_set {W : World} {fb : Nat} {x y : Value} (h : W.heap[fb]? = some (.cells #[x, y] 47 (0, 0))) (x' y' : Value) : ((W.setCell ⟨fb, 0, none⟩ x').setCell ⟨fb, 1, none⟩ y').heap[fb]? = some (.cells #[x', y'] 47 (0, 0)) ∧ Turn (fun k => k = fb) W ((W.setCell ⟨fb, 0, none⟩ x').setCell ⟨fb, 1, none⟩ y') := by
  have h1 := heap_setCell_same W fb 0 _ _ x' h
  have h2 := heap_setCell_same _ fb 1 _ _ y' h1
  refine ⟨by rw [h2]; rfl, Turn.set (S := fun k => k = fb) (Turn.set (S := fun k => k = fb) (Turn.refl _ _) rfl 0 _) rfl 1 _⟩
theorem MI.again {l : List Ls} {rs : List (List (Int × Int))} {xa : Option Addr} {xn xc fb : Nat} {yi : Int} {ok : Bool} {x y : Value} (h : Ms w hb wr v9 out v turns came) (hbx : wr.heap[fb]? = some (.cells #[x, y] 47 (0, 0))) (h1 : w.heap.size < fb) (h2 : ¬ foot hb v fb) (h3 : v9.ownBlock ≠ some fb) (hM : Mg (fun x => x.1) (allL l) out rs) (ht : turns ≤ l.length + out.length) (hP : PopR l rs came ok xa xn xc yi) : MI w hb l v9 (.pointer (some ⟨fb, 0, none⟩)) (.bool ok) ((wr.setCell ⟨fb, 0, none⟩ (.slice xa xn xc)).setCell ⟨fb, 1, none⟩ (.int .i64 yi)) := by
  obtain ⟨g1, g2⟩ := box2_set hbx (.slice xa xn xc) (.int .i64 yi)
  exact ⟨fb, out, rs, v, turns, came, xa, xn, xc, yi, ok, rfl, rfl, h.other g2 h1 h2 h3, hM, ht, g1, h1, h2, h3, hP⟩
theorem lenS_own {base : Nat} (h : OwnT base wr v9 out) : lenS v9 = out.length := by
  obtain ⟨a, b, c, e, _⟩ := h.form
  rw [e]; rfl
end
end Go.Proofs.Ytnmaldgmlkcliaa.HH
