/- Inputs, outputs, programs as they lie in memory. No walk here. -/
import Derived.Test.YtpnjmldbohecdaaBA
import Derived.Test.YtpnjmldbohecdaaCR
namespace Go.Proofs.Ytpnjmldbohecdaa
open Go.RowKit Go.Maps

structure Inp where
  pred : ByteArray
  ar : Int
  file : ByteArray
def Inp.v (x : Inp) : Value := .agg #[.string x.pred, .int .i64 x.ar, .string x.file]
structure Oup where
  pred : ByteArray
  ar : Int
def Oup.v (x : Oup) : Value := .agg #[.string x.pred, .int .i64 x.ar]
def encInp (x : Inp) : List Value := [.string x.pred, .int .i64 x.ar, .string x.file]
theorem encInpOk : EncOk 3 encInp := ⟨fun _ => rfl, fun _ u hu => by simp [encInp] at hu; rcases hu with rfl | rfl | rfl <;> rfl, by decide⟩
def encOup (x : Oup) : List Value := [.string x.pred, .int .i64 x.ar]
theorem encOupOk : EncOk 2 encOup := ⟨fun _ => rfl, fun _ u hu => by simp [encOup] at hu; rcases hu with rfl | rfl <;> rfl, by decide⟩
def encRu (x : Ru) : List Value := [.string x.head.pred, x.head.sl, .slice x.a x.body.length x.cap]
theorem encRuOk : EncOk 3 encRu := ⟨fun _ => rfl, fun _ u hu => by simp [encRu, At.sl] at hu; rcases hu with rfl | rfl | rfl <;> rfl, by decide⟩
def LsI (w : World) (a : Option Addr) (b off : Nat) (ts : List Inp) : Prop := RecS 3 encInp w a b off ts
def LsO (w : World) (a : Option Addr) (b off : Nat) (ts : List Oup) : Prop := RecS 2 encOup w a b off ts
def LsR (w : World) (a : Option Addr) (b off : Nat) (ts : List Ru) : Prop := RecS 3 encRu w a b off ts ∧ ∀ x ∈ ts, x.In w
/-- A program as it lies in memory. -/
structure Pr where
  ia : Option Addr
  ib : Nat
  io : Nat
  ic : Nat
  ins : List Inp
  oa : Option Addr
  ob : Nat
  oo : Nat
  oc : Nat
  outs : List Oup
  ra : Option Addr
  rb : Nat
  ro : Nat
  rc : Nat
  rules : List Ru
def Pr.v (x : Pr) : Value := .agg #[.slice x.ia x.ins.length x.ic, .slice x.oa x.outs.length x.oc, .slice x.ra x.rules.length x.rc]
def Pr.In (x : Pr) (w : World) : Prop := LsI w x.ia x.ib x.io x.ins ∧ LsO w x.oa x.ob x.oo x.outs ∧ LsR w x.ra x.rb x.ro x.rules
theorem Pr.stay {x : Pr} {w w' : World} (h : x.In w) (hs : Stay w w') : x.In w' :=
  ⟨RecS.stay h.1 hs, RecS.stay h.2.1 hs, RecS.stay h.2.2.1 hs, fun y hy => Ru.stay (h.2.2.2 y hy) hs⟩
end Go.Proofs.Ytpnjmldbohecdaa
