/- Gotos to several labels; a string's bytes, plainly. -/
import Derived.Test.YtioafeckaeaopaaDoorXJ
import Derived.Test.YtioafeckaeaopaaDoorXL
import Derived.ScopeJumps
namespace Go.Proofs.YtioafeckaeaopaaDoor
open Go.RowKit Go.Maps

/-- As Q; by a goto to a label: what that label asks. -/
def jumps (J : Nat → Act → World → Prop) (Q : Exit → Act → World → Prop) : Exit → Act → World → Prop
  | .goto l, a, w => J l a w
  | e, a, w => Q e a w

theorem wp_scope_labels {P : Program} {a : Act} {w : World} {Q : Exit → Act → World → Prop} {c : Code} (J : Nat → Act → World → Prop) (m : Nat → Act → World → Nat)
    (hf : ∀ l a w, J l a w → ∃ rest, findLabel c l = some (.seq .skip rest) ∧ rest.wp P (jumps (fun l' a' w' => J l' a' w' ∧ m l' a' w' < m l a w) Q) a w)
    (start : (∀ l a w, J l a w → ∃ rest, findLabel c l = some (.seq .skip rest) ∧ rest.wp P (jumps J Q) a w) → c.wp P (jumps J Q) a w) : (Code.scope c).wp P Q a w := by
  have first : c.wp P (jumps J Q) a w := start fun l a w hJ => by
    obtain ⟨rest, h1, h2⟩ := hf l a w hJ
    exact ⟨rest, h1, wp_mono h2 fun e a' w' h => by
      cases e with
      | goto l' => exact h.1
      | _ => exact h⟩
  intro b k cs
  have go : ∀ n l a w, m l a w = n → J l a w → ∃ s, gotoIn l (.inScope c :: k) = some s ∧ ∃ e a' w', Q e a' w' ∧ Arrives P (lone (b.at a s) cs w) b k cs e a' w' := by
    intro n
    induction n using Nat.strongRecOn with
    | _ n ih =>
      intro l a w hn hJ
      obtain ⟨rest, hr, hw⟩ := hf l a w hJ
      refine ⟨.code (.seq .skip rest) :: .inScope c :: k, by simp [gotoIn, hr], ?_⟩
      obtain ⟨e, a1, w1, hq, har⟩ := (wp_seq (wp_skip hw) : (Code.seq .skip rest).wp P _ a w) b (.inScope c :: k) cs
      cases e with
      | normal => exact ⟨.normal, a1, w1, hq, Steps.trans har (.one step_inScope)⟩
      | exit id => exact ⟨.exit id, a1, w1, hq, fun k' hk => har k' (by simp [exitTo, hk])⟩
      | goto l' =>
        obtain ⟨s, hs, e2, a2, w2, hq2, har2⟩ := ih _ (by have := hq.2; omega) l' a1 w1 rfl hq.1
        exact ⟨e2, a2, w2, hq2, .of_steps (har _ hs) har2⟩
      | ret => exact ⟨_, a1, w1, hq, har⟩
      | panic ch => exact ⟨_, a1, w1, hq, har⟩
      | outgrown => exact ⟨_, a1, w1, hq, har⟩
  obtain ⟨e, a1, w1, hq, har⟩ := first b (.inScope c :: k) cs
  cases e with
  | normal => exact ⟨.normal, a1, w1, hq, .head step_scope (Steps.trans har (.one step_inScope))⟩
  | exit id => exact ⟨.exit id, a1, w1, hq, fun k' hk => .head step_scope (har k' (by simp [exitTo, hk]))⟩
  | goto l' =>
    obtain ⟨s, hs, e2, a2, w2, hq2, har2⟩ := go _ l' a1 w1 rfl hq
    exact ⟨e2, a2, w2, hq2, .of_steps (.head step_scope (har _ hs)) har2⟩
  | ret => exact ⟨_, a1, w1, hq, .of_steps (.one step_scope) har⟩
  | panic ch => exact ⟨_, a1, w1, hq, .of_steps (.one step_scope) har⟩
  | outgrown => exact ⟨_, a1, w1, hq, .of_steps (.one step_scope) har⟩

/-- What is read of a string: its bytes, how many bytes of the text, is it closed there? -/
abbrev R := List UInt8 × Nat × Bool
def no (n : Nat) : R := ([], n, false)
def skip (n : Nat) (r : R) : R := (r.1, n + r.2.1, r.2.2)
def put (b : UInt8) (n : Nat) (r : R) : R := (b :: r.1, n + r.2.1, r.2.2)
mutual
/-- Behind a quotation mark or a piece, c bytes having come. -/
def unqP : Nat → List UInt8 → R
  | _, [] => no 0
  | c, b :: l => if b = 34 then ([], 1, true) else if c = 1024 then no 0 else if b = 92 then skip 1 (unqE c l) else if plainZ (b.toNat : Int) then put b 1 (unqP (c + 1) l) else no 0
/-- Behind a backslash. -/
def unqE : Nat → List UInt8 → R
  | _, [] => no 0
  | c, e :: l => if e = 34 ∨ e = 92 then put e 1 (unqP (c + 1) l) else if e = 110 then put 10 1 (unqP (c + 1) l) else if e = 116 then put 9 1 (unqP (c + 1) l) else if e = 120 then skip 1 (unqD c l) else no 0
/-- Behind a backslash and an x. -/
def unqD : Nat → List UInt8 → R
  | _, [] => no 0
  | _, [h] => if hexV (h.toNat : Int) < 0 then no 0 else no 1
  | c, h :: g :: l => if hexV (h.toNat : Int) < 0 then no 0 else if hexV (g.toNat : Int) < 0 then no 1 else put (16 * hexV (h.toNat : Int) + hexV (g.toNat : Int)).toNat.toUInt8 2 (unqP (c + 1) l)
end
/-- What is read in all, bs having come, up to the place k. -/
def fin (bs : List UInt8) (k : Nat) (r : R) : R := if r.2.2 then (bs ++ r.1, k + r.2.1, true) else ([], k + r.2.1, false)
theorem fin_skip (bs : List UInt8) (k n : Nat) (r : R) : fin bs k (skip n r) = fin bs (k + n) r := by
  unfold fin skip
  cases h : r.2.2 <;> simp [Nat.add_assoc]
theorem fin_put (bs : List UInt8) (k n : Nat) (b : UInt8) (r : R) : fin bs k (put b n r) = fin (bs ++ [b]) (k + n) r := by
  unfold fin put
  cases h : r.2.2 <;> simp [Nat.add_assoc]
theorem fin_no (bs : List UInt8) (k n : Nat) : fin bs k (no n) = no (k + n) := by simp [fin, no]
/-- The string that a text begins with. -/
def unquoteT (l : List UInt8) : R := fin [] 1 (unqP 0 (l.drop 1))
end Go.Proofs.YtioafeckaeaopaaDoor
