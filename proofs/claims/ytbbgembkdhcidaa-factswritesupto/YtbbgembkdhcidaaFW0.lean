/- walk: a line gone through by states. Written by tools/fw.py. -/
import Derived.Test.YtbbgembkdhcidaaFG
namespace Go.Proofs.Ytbbgembkdhcidaa
open Go.RowKit Go.Maps

/-- What is left at a label: cs were taken, c has come of a field, and the place k. -/
def fwS (L : List UInt8) (l : Nat) (c : List UInt8) (cs : List (List UInt8)) (k : Nat) : Prop :=
  (l = 0 ∧ splitT L = lfin cs k (walkP c (L.drop k))) ∨ (l = 2 ∧ c.length < 1024 ∧ splitT L = lfin cs k (walkE c (L.drop k))) ∨ (l = 1 ∧ splitT L = (cs, some k))
def fwJ (s : ByteArray) (rb cap gf : Nat) (lb : Array Value) (J : List (List UInt8) → World → Prop) (l : Nat) (a : Act) (W : World) : Prop :=
  ∃ (k n : Nat) (c : List UInt8) (cs : List (List UInt8)), (n = c.length ∧ J cs W ∧ Rm W rb cap c ∧ k ≤ s.size ∧ n ≤ 1024 ∧ n ≤ k ∧ cs.length ≤ k ∧ fwS s.data.toList l c cs k) ∧ ∃ u3 u4 u5 u6 u9 u10 u11 u12 u13 u14 u15 u16 u17 u18 u19 u20 u21 u22 u23 u24 u25 u26 u27 u28 u29 u30 u31 u32 u33 u34 u35 u36 u37 u38 u39 u40 u41 u42 u43 u44 u45 u46 u47 u48 u49 u50 u51 u52 u53 u54 u55 u56 u57 u58 u59 u60 u61 u62 u63 u64 u65 u66 u67 u68 u69 u70 u71 u72 u73 : Value, a = { tmps := #[.string s, .slice (some ⟨rb, 0, none⟩) 0 cap, .func (.func gf) #[] lb, u3, u4, u5, u6, .slice (some ⟨rb, 0, none⟩) n cap, .int .i64 (k : Int), u9, u10, u11, u12, u13, u14, u15, u16, u17, u18, u19, u20, u21, u22, u23, u24, u25, u26, u27, u28, u29, u30, u31, u32, u33, u34, u35, u36, u37, u38, u39, u40, u41, u42, u43, u44, u45, u46, u47, u48, u49, u50, u51, u52, u53, u54, u55, u56, u57, u58, u59, u60, u61, u62, u63, u64, u65, u66, u67, u68, u69, u70, u71, u72, u73], defers := [] }
def fwM (s : ByteArray) (l : Nat) (a : Act) (_ : World) : Nat := if l = 1 then 0 else s.size + 1 - (intOf (a.tmps.getD 8 undef)).toNat

end Go.Proofs.Ytbbgembkdhcidaa
