/- unquote. Written by tools/xn.py. -/
import Derived.Test.YtioafeckaeaopaaDoorXM
namespace Go.Proofs.YtioafeckaeaopaaDoor
open Go.RowKit Go.Maps

/-- What is left to be read at a label: what came, bs, and the place k. -/
def uqS (L : List UInt8) (l : Nat) (bs : List UInt8) (k : Nat) : Prop :=
  (l = 2 ∧ unquoteT L = fin bs k (unqP bs.length (L.drop k))) ∨ (l = 1 ∧ bs.length < 1024 ∧ unquoteT L = fin bs k (unqE bs.length (L.drop k))) ∨ (l = 3 ∧ bs.length < 1024 ∧ unquoteT L = fin bs k (unqD bs.length (L.drop k))) ∨ (l = 0 ∧ unquoteT L = no k)
def uqJ (w : World) (s : ByteArray) (l : Nat) (a : Act) (W : World) : Prop :=
  ∃ (k : Nat) (bs : List UInt8), (Bld w.heap.size w.heap.size W bs ∧ Stay w W ∧ k ≤ s.size ∧ bs.length ≤ 1024 ∧ uqS s.data.toList l bs k) ∧ ∃ u1 u2 u3 u4 u6 u7 u9 u10 u11 u12 u13 u14 u15 u16 u17 u18 u19 u20 u21 u22 u23 u24 u25 u26 u27 u28 u29 u30 u31 u32 u33 u34 u35 u36 u37 u38 u39 u40 u41 u42 u43 u44 u45 u46 u47 u48 u49 u50 u51 u52 u53 u54 u55 u56 u57 u58 u59 u60 u61 u62 u63 u64 u65 u66 u67 u68 u69 u70 u71 u72 u73 u74 u75 u76 u77 u78 u79 u80 : Value, a = { tmps := #[.string s, u1, u2, u3, u4, .pointer (some ⟨w.heap.size, 0, none⟩), u6, u7, .int .i64 (k : Int), u9, u10, u11, u12, u13, u14, u15, u16, u17, u18, u19, u20, u21, u22, u23, u24, u25, u26, u27, u28, u29, u30, u31, u32, u33, u34, u35, u36, u37, u38, u39, u40, u41, u42, u43, u44, u45, u46, u47, u48, u49, u50, u51, u52, u53, u54, u55, u56, u57, u58, u59, u60, u61, u62, u63, u64, u65, u66, u67, u68, u69, u70, u71, u72, u73, u74, u75, u76, u77, u78, u79, u80], defers := [] }
def uqM (s : ByteArray) (l : Nat) (a : Act) (_ : World) : Nat := if l = 0 then 0 else s.size + 1 - (intOf (a.tmps.getD 8 undef)).toNat

theorem unqP_at (c : Nat) (L : List UInt8) (k : Nat) (h : k < L.length) : unqP c (L.drop k) = if L[k] = 34 then ([], 1, true) else if c = 1024 then no 0 else if L[k] = 92 then skip 1 (unqE c (L.drop (k + 1))) else if plainZ (L[k].toNat : Int) then put L[k] 1 (unqP (c + 1) (L.drop (k + 1))) else no 0 := by
  rw [List.drop_eq_getElem_cons h, unqP]
theorem unqE_at (c : Nat) (L : List UInt8) (k : Nat) (h : k < L.length) : unqE c (L.drop k) = if L[k] = 34 ∨ L[k] = 92 then put L[k] 1 (unqP (c + 1) (L.drop (k + 1))) else if L[k] = 110 then put 10 1 (unqP (c + 1) (L.drop (k + 1))) else if L[k] = 116 then put 9 1 (unqP (c + 1) (L.drop (k + 1))) else if L[k] = 120 then skip 1 (unqD c (L.drop (k + 1))) else no 0 := by
  rw [List.drop_eq_getElem_cons h, unqE]
theorem unqD_one (c : Nat) (L : List UInt8) (k : Nat) (h : k < L.length) (h2 : ¬ k + 1 < L.length) : unqD c (L.drop k) = if hexV (L[k].toNat : Int) < 0 then no 0 else no 1 := by
  rw [List.drop_eq_getElem_cons h, List.drop_eq_nil_of_le (by omega), unqD]
theorem unqD_two (c : Nat) (L : List UInt8) (k : Nat) (h : k < L.length) (h2 : k + 1 < L.length) : unqD c (L.drop k) = if hexV (L[k].toNat : Int) < 0 then no 0 else if hexV (L[k + 1].toNat : Int) < 0 then no 1 else put (16 * hexV (L[k].toNat : Int) + hexV (L[k + 1].toNat : Int)).toNat.toUInt8 2 (unqP (c + 1) (L.drop (k + 2))) := by
  rw [List.drop_eq_getElem_cons h, List.drop_eq_getElem_cons h2, unqD]
theorem byte_ne {b c : UInt8} (h : b ≠ c) : ((b.toNat : Int) == (c.toNat : Int)) = false := by
  simp only [beq_eq_false_iff_ne, ne_eq]
  intro e
  exact h (UInt8.toNat_inj.1 (by omega))
theorem Bld.lenOk {B b : Nat} {w : World} {bs : List UInt8} (h : Bld B b w bs) : Calls Tryd.prog 76 #[.pointer (some ⟨b, 0, none⟩)] w fun e w' => e = .returned (.int .i64 (bs.length : Int)) ∧ w' = w := by
  have := Tryd.Builder_Len B b (Lib.byteCells bs) w h
  rwa [Lib.byteCells_length] at this
theorem Bld.strOk {B b : Nat} {w : World} {bs : List UInt8} (h : Bld B b w bs) (hB : B ≤ w.heap.size) : Calls Tryd.prog 42 #[.pointer (some ⟨b, 0, none⟩)] w fun e w' => e = .returned (.string ⟨bs.toArray⟩) ∧ Below B w w' :=
  (Tryd.Builder_String_any B b bs w h hB).mono fun _ _ h => ⟨h.1, by first | exact h.2.2 | exact h.2.2.1 | exact h.2⟩
theorem Bld.drewN {B b : Nat} {w : World} {bs : List UInt8} (h : Bld B b w bs) (n : Nat) : Bld B b (w.drewN n) bs := h
theorem hexV_le (r : Int) : hexV r ≤ 15 := by
  unfold hexV
  repeat' split
  all_goals omega
theorem hexC {H G : Int} {c : UInt8} (h1 : ¬ H < 0) (h2 : ¬ G < 0) (h3 : H ≤ 15) (h4 : G ≤ 15) (hc : c = (16 * H + G).toNat.toUInt8) : (c.toNat : Int) = 16 * H + G := by
  rw [hc]
  have : (16 * H + G).toNat.toUInt8.toNat = (16 * H + G).toNat % 256 := by simp
  rw [this]; omega
theorem hexOr0 : ∀ a b : Fin 16, bits BinOp.or IntKind.i64 ((a.val : Int) * 16) (b.val : Int) % 256 = 16 * (a.val : Int) + (b.val : Int) := by decide
theorem hexOr {H G : Int} (h1 : 0 ≤ H) (h2 : H ≤ 15) (h3 : 0 ≤ G) (h4 : G ≤ 15) : bits BinOp.or IntKind.i64 (H * 16) G % 256 = 16 * H + G := by
  have := hexOr0 ⟨H.toNat, by omega⟩ ⟨G.toNat, by omega⟩
  dsimp only at this
  rwa [show (H.toNat : Int) = H by omega, show (G.toNat : Int) = G by omega] at this
theorem Stay.then_below {w W W' : World} (h : Stay w W) (k : Below w.heap.size W W') : Stay w W' := Below.trans h k

/-- The code in the first scope. -/
def scopeOf : Code → Code
  | .seq _ b => scopeOf b
  | .scope c => c
  | c => c
end Go.Proofs.YtioafeckaeaopaaDoor
