/- One layout: two tables with the same keys in the same order, of one size. -/
import Derived.Test.YtaikoinakieacaaJI
namespace Go.Proofs.Ytaikoinakieacaa.I
open Go.RowKit Go.Maps Go.Shelf Go.Proofs.Ytaikoinakieacaa

def pk (e : E) : Int × Int := ((e.place : Int), e.key)

theorem layout_same {Wu Wt : World} {bu bt pbu pbt N len len' ru rt : Nat} {fpu fpt : Nat × Nat × Int} {cvu cvt : Value} {cameu camet : List E} {plu plt : List Nat} (hu : Tab Wu bu fpu cvu pbu N len ru cameu plu) (ht : Tab Wt bt fpt cvt pbt N len' rt camet plt)
    (hkv : (live cameu).map kv = (live camet).map kv) (hway : fpu.2.2 = fpt.2.2) : (byPl (live cameu)).map pk = (byPl (live camet)).map pk := by
  have hN := hu.pow.bd.1
  have hlen : (live cameu).length = (live camet).length := by simpa using congrArg List.length hkv
  have hkey : ∀ (i : Nat) e e', (live cameu)[i]? = some e → (live camet)[i]? = some e' → e.key = e'.key := by
    intro i e e' h1 h2
    have : ((live cameu).map kv)[i]? = ((live camet).map kv)[i]? := by rw [hkv]
    rw [List.getElem?_map, List.getElem?_map, h1, h2] at this
    simp only [Option.map_some, Option.some.injEq, kv, Prod.mk.injEq] at this
    exact this.1
  have hhash : ∀ (i : Nat) e e', (live cameu)[i]? = some e → (live camet)[i]? = some e' → e.hash = e'.hash := by
    intro i e e' h1 h2
    obtain ⟨t, a1, a2, _⟩ := rank_ex h1
    obtain ⟨t', b1, b2, _⟩ := rank_ex h2
    rw [(hu.keys t e a1 a2).1, (ht.keys t' e' b1 b2).1, hkey i e e' h1 h2]
    unfold hf; rw [hway]
  have hpl := (hu.lies.fst).same ht.lies.fst hN hlen hhash
  have hpk : (live cameu).map pk = (live camet).map pk := by
    apply List.ext_getElem?
    intro i
    rw [List.getElem?_map, List.getElem?_map]
    cases h1 : (live cameu)[i]? with
    | none =>
      have : (live camet)[i]? = none := by rw [List.getElem?_eq_none_iff] at h1 ⊢; omega
      rw [this]
    | some e =>
      obtain ⟨e', h2⟩ : ∃ e', (live camet)[i]? = some e' := ⟨_, List.getElem?_eq_getElem (by have := (List.getElem?_eq_some_iff.1 h1).1; omega)⟩
      rw [h2]
      simp only [Option.map_some, pk, hkey i e e' h1 h2, hpl i e e' h1 h2]
  refine List.Perm.eq_of_pairwise (le := fun a b : Int × Int => a.1 ≤ b.1) ?_ ?_ ?_ ?_
  · intro a b ha hb h1 h2
    have ha' : a ∈ (live camet).map pk := by rw [← hpk]; exact ((byPl_perm _).map pk).mem_iff.1 ha
    have hb' : b ∈ (live camet).map pk := ((byPl_perm _).map pk).mem_iff.1 hb
    obtain ⟨x, hx, rfl⟩ := List.mem_map.1 ha'
    obtain ⟨y, hy, rfl⟩ := List.mem_map.1 hb'
    rw [ht.inj x y hx hy (by simp only [pk] at h1 h2; omega)]
  · rw [List.pairwise_map]; exact (byPl_rise _).imp fun h => by simp only [pk]; omega
  · rw [List.pairwise_map]; exact (byPl_rise _).imp fun h => by simp only [pk]; omega
  · exact ((byPl_perm _).map pk).trans (by rw [hpk]; exact ((byPl_perm _).map pk).symm)

theorem pk_at {a b : List E} (h : a.map pk = b.map pk) (x : Nat) : ((a[x]?.getD gap).place : Int) = ((b[x]?.getD gap).place : Int) ∧ (a[x]?.getD gap).key = (b[x]?.getD gap).key := by
  have e : (a.map pk)[x]? = (b.map pk)[x]? := by rw [h]
  rw [List.getElem?_map, List.getElem?_map] at e
  cases h1 : a[x]? with
  | none =>
    rw [h1] at e
    cases h2 : b[x]? with
    | none => exact ⟨rfl, rfl⟩
    | some y => rw [h2] at e; simp at e
  | some y =>
    rw [h1] at e
    cases h2 : b[x]? with
    | none => rw [h2] at e; simp at e
    | some z =>
      rw [h2] at e
      simp only [Option.map_some, Option.some.injEq, pk, Prod.mk.injEq] at e
      exact e
end Go.Proofs.Ytaikoinakieacaa.I
