/- next's second drawn region: the token that is first. -/
import Derived.Test.YtioafeckaeaopaaDoorXQ
namespace Go.Proofs.YtioafeckaeaopaaDoor
open Go.RowKit Go.Maps

/-- Behind it: the token lies in block B. -/
def Nt (W X : World) (b : Nat) (s : ByteArray) (far : Nat) (o : Tok) (B : Nat) (t : Tok) : Prop := Nx W X b s far o ∧ W.heap.size < B ∧ X.heap[B]? = some (.cells #[.int .i64 t.kind, .string ⟨t.text.toArray⟩, .int .i64 (t.at_ : Int), .int .i64 (t.fin : Int)] 25 (0, 0))
theorem Nx.store {W X : World} {b : Nat} {s : ByteArray} {far : Nat} {o : Tok} (h : Nx W X b s far o) {B : Nat} (hB : W.heap.size < B) (hb : b < W.heap.size) (j : Nat) (v : Value) : Nx W (X.setCell ⟨B, j, none⟩ v) b s far o := by
  exact ⟨(Below.heap_setCell _ _ _ _ (by show b ≠ B; omega)).trans h.at_, (Below.heap_setCell _ _ _ _ (by show W.heap.size ≠ B; omega)).trans h.res, h.turn.os, h.turn.tape, h.turn.output, by simp only [World.setCell, Array.size_modify]; exact h.turn.size,
    fun k hk hn => (Below.heap_setCell _ _ _ _ (by show k ≠ B; omega)).trans (h.turn.block k hk hn)⟩

set_option maxRecDepth 100000 in
set_option maxHeartbeats 4000000 in
theorem next_r2 {s : ByteArray} {W W1 : World} {b far : Nat} {o : Tok} {t1 : Int} {t2 : List UInt8} {t3 t4 : Nat} {t5 : Bool} (hN : Nx W W1 b s far o) (hT : Tabs W) (hb : 2 ≤ b) (hbW : b < W.heap.size) (hf : far ≤ s.size)
    (hfi : ∀ X : World, Tabs X → Calls Tryd.prog 57 #[.string (s.extract far s.size)] X fun e w' => e = .returned (.tuple #[.agg #[.int .i64 t1, .string ⟨t2.toArray⟩, .int .i64 (t3 : Int), .int .i64 (t4 : Int)], .bool t5]) ∧ Stay X w')
    {u6 u7 u8 u9 u10 u11 u12 u13 u14 u15 u16 u17 u18 u19 u20 u21 u22 : Value} {c : Code} (hc : Tryd.f45.body.bind (regionOf 2) = some c) (K : Act → World → Prop) (hQ : ∀ (X : World) (B : Nat) (u23 u24 u25 u26 u27 u28 u29 u30 u31 u32 u33 u34 u35 : Value), Nt W X b s far o B ⟨t1, t2, t3, t4⟩ → K { tmps := #[.pointer (some ⟨b, 0, none⟩), undef, .pointer (some ⟨W.heap.size, 0, none⟩), .bool false, .pointer (some ⟨B, 0, none⟩), .bool t5, u6, u7, u8, u9, u10, u11, u12, u13, u14, u15, u16, u17, u18, u19, u20, u21, u22, u23, u24, u25, u26, u27, u28, u29, u30, u31, u32, u33, u34, u35, undef, undef, undef, undef, undef, undef, undef, undef, undef, undef, undef, undef, undef, undef, undef, undef, undef, undef, undef, undef, undef, undef, undef, undef, undef, undef, undef, undef, undef, undef, undef, undef, undef, undef, undef, undef, undef], defers := [] } X) :
    c.wp Tryd.prog (Exit.then K fun _ _ _ => False) { tmps := #[.pointer (some ⟨b, 0, none⟩), undef, .pointer (some ⟨W.heap.size, 0, none⟩), .bool false, undef, undef, u6, u7, u8, u9, u10, u11, u12, u13, u14, u15, u16, u17, u18, u19, u20, u21, u22, undef, undef, undef, undef, undef, undef, undef, undef, undef, undef, undef, undef, undef, undef, undef, undef, undef, undef, undef, undef, undef, undef, undef, undef, undef, undef, undef, undef, undef, undef, undef, undef, undef, undef, undef, undef, undef, undef, undef, undef, undef, undef, undef, undef, undef, undef, undef, undef, undef, undef], defers := [] } W1 := by
  simp only [Tryd.f45, Option.bind_some, regionOf, Nat.reduceEqDiff, if_true, if_false, Option.none_or, Option.some_or, Option.or_some, Option.getD_none, Option.some.injEq] at hc
  subst hc
  obtain ⟨d0, d1, -, -, -, -, d6⟩ := six hN.at_
  have hle : (far : Int) ≤ (s.size : Int) := by omega
  have hbl : b < W1.heap.size := Nat.lt_of_lt_of_le hbW hN.turn.size
  have hTs : Tabs W1 := hT.turn hN.turn (fun k hk => by omega)
  have HN : Hid (Nx W W1 b s far o) := hN
  have HQ : Hid (∀ (X : World) (B : Nat) (u23 u24 u25 u26 u27 u28 u29 u30 u31 u32 u33 u34 u35 : Value), Nt W X b s far o B ⟨t1, t2, t3, t4⟩ → K { tmps := #[.pointer (some ⟨b, 0, none⟩), undef, .pointer (some ⟨W.heap.size, 0, none⟩), .bool false, .pointer (some ⟨B, 0, none⟩), .bool t5, u6, u7, u8, u9, u10, u11, u12, u13, u14, u15, u16, u17, u18, u19, u20, u21, u22, u23, u24, u25, u26, u27, u28, u29, u30, u31, u32, u33, u34, u35, undef, undef, undef, undef, undef, undef, undef, undef, undef, undef, undef, undef, undef, undef, undef, undef, undef, undef, undef, undef, undef, undef, undef, undef, undef, undef, undef, undef, undef, undef, undef, undef, undef, undef, undef, undef, undef], defers := [] } X) := hQ
  have HB : Hid (b < W.heap.size) := hbW
  have HT : Hid (Tabs W1) := hTs
  clear d6 hN hQ hbW hT hTs
  dsimp only
  go_region_with (first
    | (go_at_call 57; refine (hfi _ (by first | exact HT.out.stay (Stay.drew _) | exact HT.out.stay ((Stay.drew _).alloc _) | exact HT.out.stay ((Stay.new _ _).trans (Stay.drew _)))).mono ?_; rintro e w2 ⟨rfl, hs2⟩; first | (have hq : w2.heap[W1.heap.size]? = some (.cells #[.int .i64 0, .string ⟨#[]⟩, .int .i64 0, .int .i64 0] 25 (0, 0)) := (hs2.block W1.heap.size (by simp)).trans (heap_new W1 _); obtain ⟨a0, a1, a2, a3, a4, a5, a6, a7⟩ := four hq; have HX : Hid (Stay W1 w2 ∧ w2.heap[W1.heap.size]? = some (.cells #[.int .i64 0, .string ⟨#[]⟩, .int .i64 0, .int .i64 0] 25 (0, 0))) := ⟨((Stay.new W1 _).trans (Stay.drew _)).trans hs2, hq⟩; clear hs2 hq) | (have HY : Hid (Stay W1 w2) := (Stay.drew _).trans hs2; clear hs2)))
  all_goals
    first
      | exact HQ.out _ w2.heap.size _ _ _ _ _ _ _ _ _ _ _ _ _ ⟨(HN.out.stay HY.out).stay (Stay.new _ _), (HN.out.stay HY.out).size, heap_new w2 _⟩
      | exact HQ.out _ W1.heap.size _ _ _ _ _ _ _ _ _ _ _ _ _ ⟨((((HN.out.stay HX.out.1).store HN.out.size HB.out 0 _).store HN.out.size HB.out 1 _).store HN.out.size HB.out 2 _).store HN.out.size HB.out 3 _, HN.out.size, set4 HX.out.2 _ _ _ _⟩
end Go.Proofs.YtioafeckaeaopaaDoor
