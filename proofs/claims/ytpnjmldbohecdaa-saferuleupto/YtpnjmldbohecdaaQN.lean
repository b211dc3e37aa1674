/- known: a small rule that is safe, and one that is not. -/
import Derived.Test.YtpnjmldbohecdaaQM
namespace Go.Proofs.Ytpnjmldbohecdaa
open Go.RowKit Go.Maps Go.Shelf

def knownRu (b0 b1 : Nat) (kd : Int) : Ru := ⟨⟨⟨#[112]⟩, some ⟨b0, 0, none⟩, b0, 0, 1, [⟨true, ⟨#[88]⟩⟩]⟩, some ⟨b1, 0, none⟩, b1, 0, 1, [⟨kd, ⟨⟨#[113]⟩, some ⟨b0, 0, none⟩, b0, 0, 1, [⟨true, ⟨#[88]⟩⟩]⟩, ⟨false, ⟨#[]⟩⟩, ⟨false, ⟨#[]⟩⟩⟩]⟩
theorem known_1 (b0 b1 : Nat) : looseP (knownRu b0 b1 1) = [] := by
  have h : placesR (knownRu b0 b1 1) = [(-1, ⟨#[88]⟩), (0, ⟨#[88]⟩)] := rfl
  have h2 : bindP (knownRu b0 b1 1).body = [(0, ⟨#[88]⟩)] := rfl
  unfold looseP
  rw [h, h2]
  simp [sel, selF, newC, looseC, inB, namesP]
theorem known_2 (b0 b1 : Nat) : looseP (knownRu b0 b1 2) = [(-1, ⟨#[88]⟩)] := by
  have h : placesR (knownRu b0 b1 2) = [(-1, ⟨#[88]⟩), (0, ⟨#[88]⟩)] := rfl
  have h2 : bindP (knownRu b0 b1 2).body = [] := rfl
  unfold looseP
  rw [h, h2]
  simp [sel, selF, newC, looseC, inB, namesP]
theorem known_fit (b0 b1 : Nat) (kd : Int) (W : World) (h0 : W.heap[b0]? = some (.cells #[.bool true, .string ⟨#[88]⟩] 51 (0, 0))) (h1 : W.heap[b1]? = some (.cells #[.int .i64 kd, .string ⟨#[113]⟩, .slice (some ⟨b0, 0, none⟩) 1 1, .bool false, .string ⟨#[]⟩, .bool false, .string ⟨#[]⟩] 53 (0, 0))) : (knownRu b0 b1 kd).fit W := by
  have l0 := (Array.getElem?_eq_some_iff.1 h0).1
  have l1 := (Array.getElem?_eq_some_iff.1 h1).1
  have t0 : TmsS W (some ⟨b0, 0, none⟩) b0 0 [⟨true, ⟨#[88]⟩⟩] := ⟨fun _ => rfl, fun j hj => by
    obtain rfl : j = 0 := by simpa using hj
    simp [World.cell?, h0]⟩
  refine ⟨⟨t0, fun _ => rfl, fun j hj => ?_⟩, ⟨by simp [knownRu], by simp [knownRu], ?_⟩, ⟨fun _ => l0, fun _ => l1, ?_⟩, ?_, ?_⟩
  · obtain rfl : j = 0 := by simpa [knownRu] using hj
    refine ⟨?_, ?_, ?_, ?_, ?_, ?_, ?_, t0⟩ <;> simp [World.cell?, knownRu, h1, At.sl]
  · simp [knownRu]
  · simp [knownRu, l0]
  · simp [knownRu]
    decide
  · simp [knownRu]
    decide

set_option maxRecDepth 100000 in
theorem known_any (w : World) : Calls Try.prog 18 #[] w fun e w' => e = .returned (.bool true) ∧ Stay w w' := by
  obtain ⟨V, hV⟩ : ∃ V, V = ((w.alloc (.cells #[.bool true, .string ⟨#[88]⟩] 51)).alloc (.cells #[.int .i64 1, .string ⟨#[113]⟩, .slice (some ⟨w.heap.size, 0, none⟩) 1 1, .bool false, .string ⟨#[]⟩, .bool false, .string ⟨#[]⟩] 53)).alloc (.cells #[.string ⟨#[112]⟩, .slice (some ⟨w.heap.size, 0, none⟩) 1 1, .slice (some ⟨w.heap.size + 1, 0, none⟩) 1 1] 27) := ⟨_, rfl⟩
  have sV : Stay w V := by rw [hV]; exact ((Stay.new _ _).alloc _).alloc _
  have zV : V.heap.size = w.heap.size + 3 := by rw [hV]; simp
  have v0 : V.heap[w.heap.size]? = some (.cells #[.bool true, .string ⟨#[88]⟩] 51 (0, 0)) := by
    rw [hV]; exact (Below.heap_alloc _ _ _ (by simp only [World.size_alloc]; omega)).trans ((Below.heap_alloc _ _ _ (by simp)).trans (heap_new _ _))
  have v1 : V.heap[w.heap.size + 1]? = some (.cells #[.int .i64 1, .string ⟨#[113]⟩, .slice (some ⟨w.heap.size, 0, none⟩) 1 1, .bool false, .string ⟨#[]⟩, .bool false, .string ⟨#[]⟩] 53 (0, 0)) := by
    have := heap_new (w.alloc (.cells #[.bool true, .string ⟨#[88]⟩] 51)) (.cells #[.int .i64 1, .string ⟨#[113]⟩, .slice (some ⟨w.heap.size, 0, none⟩) 1 1, .bool false, .string ⟨#[]⟩, .bool false, .string ⟨#[]⟩] 53)
    rw [World.size_alloc] at this
    rw [hV]; exact (Below.heap_alloc _ _ _ (by simp)).trans this
  have v2 : V.heap[w.heap.size + 1 + 1]? = some (.cells #[.string ⟨#[112]⟩, .slice (some ⟨w.heap.size, 0, none⟩) 1 1, .slice (some ⟨w.heap.size + 1, 0, none⟩) 1 1] 27 (0, 0)) := by
    have := heap_new ((w.alloc (.cells #[.bool true, .string ⟨#[88]⟩] 51)).alloc (.cells #[.int .i64 1, .string ⟨#[113]⟩, .slice (some ⟨w.heap.size, 0, none⟩) 1 1, .bool false, .string ⟨#[]⟩, .bool false, .string ⟨#[]⟩] 53)) (.cells #[.string ⟨#[112]⟩, .slice (some ⟨w.heap.size, 0, none⟩) 1 1, .slice (some ⟨w.heap.size + 1, 0, none⟩) 1 1] 27)
    rw [World.size_alloc, World.size_alloc] at this
    rw [hV]; exact this
  have hr1 := rule_fit (knownRu w.heap.size (w.heap.size + 1) 1) V (known_fit _ _ _ V v0 v1)
  unfold ruleN ruleB at hr1
  rw [known_1] at hr1
  dsimp only [headN, noneB, knownRu, Ru.v, At.sl, List.length_cons, List.length_nil] at hr1
  go_enter Try.func18, Try.ntmps18
  go_wp2_with fail
  rw [← hV]
  refine hr1.mono ?_
  rintro e w1 ⟨rfl, s1⟩
  have z1 := s1.size
  have u0 := (s1.block (w.heap.size) (by omega)).trans v0
  have u1 := (s1.block (w.heap.size + 1) (by omega)).trans v1
  have u2 := (s1.block (w.heap.size + 1 + 1) (by omega)).trans v2
  have c1 : w1.cell? ⟨w.heap.size + 1, 0, none⟩ = some (.int .i64 1) := by simp [World.cell?, u1]
  have f1 : w1.frozen? ⟨w.heap.size + 1, 0, none⟩ = false := by simp [World.frozen?, u1]
  obtain ⟨U, hU⟩ : ∃ U, U = w1.setCell ⟨w.heap.size + 1, 0, none⟩ (.int .i64 2) := ⟨_, rfl⟩
  have hne : ∀ k, k ≠ w.heap.size + 1 → U.heap[k]? = w1.heap[k]? := fun k hk => by rw [hU]; exact Below.heap_setCell _ _ _ _ (fun e => hk e)
  have q0 := (hne w.heap.size (by omega)).trans u0
  have q2 := (hne (w.heap.size + 1 + 1) (by omega)).trans u2
  have q1 : U.heap[w.heap.size + 1]? = some (.cells #[.int .i64 2, .string ⟨#[113]⟩, .slice (some ⟨w.heap.size, 0, none⟩) 1 1, .bool false, .string ⟨#[]⟩, .bool false, .string ⟨#[]⟩] 53 (0, 0)) := by
    rw [hU]
    simp [World.setCell, Array.getElem?_modify, u1]
  have d0 : w1.cell? ⟨w.heap.size + 1 + 1, 2, none⟩ = some (.slice (some ⟨w.heap.size + 1, 0, none⟩) 1 1) := by simp [World.cell?, u2]
  have e0 : U.cell? ⟨w.heap.size + 1 + 1, 0, none⟩ = some (.string ⟨#[112]⟩) := by simp [World.cell?, q2]
  have e1 : U.cell? ⟨w.heap.size + 1 + 1, 1, none⟩ = some (.slice (some ⟨w.heap.size, 0, none⟩) 1 1) := by simp [World.cell?, q2]
  have e2 : U.cell? ⟨w.heap.size + 1 + 1, 2, none⟩ = some (.slice (some ⟨w.heap.size + 1, 0, none⟩) 1 1) := by simp [World.cell?, q2]
  have hr2 := rule_fit (knownRu w.heap.size (w.heap.size + 1) 2) U (known_fit _ _ _ U q0 q1)
  unfold ruleN ruleB at hr2
  rw [known_2] at hr2
  dsimp only [headN, noneB, knownRu, Ru.v, At.sl, List.length_cons, List.length_nil] at hr2
  have HS : Hid (Stay w U) := by
    have : Stay w w1 := sV.trans s1
    rw [hU]
    exact Below.setCell this (p := ⟨w.heap.size + 1, 0, none⟩) (by show w.heap.size ≤ w.heap.size + 1; omega) _
  rw [hU] at e0 e1 e2
  clear hr1 hV v0 v1 v2 u0 u1 u2 q0 q1 q2 hne s1 sV
  go_wp2_with (go_at_call 8; rw [← hU]; refine hr2.mono ?_; rintro e w2 ⟨rfl, s2⟩)
  go_ret
  exact ⟨rfl, HS.out.trans s2⟩
end Go.Proofs.Ytpnjmldbohecdaa
