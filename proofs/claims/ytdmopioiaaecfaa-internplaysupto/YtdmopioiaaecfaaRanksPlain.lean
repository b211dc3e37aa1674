/- The plain part of InternRanks: the same texts put in another way are the same by rising ranks. -/
import Derived.Test.YtdmopioiaaecfaaLent
namespace Go.Proofs.Ytdmopioiaaecfaa
open Go.RowKit Go.Maps

theorem mem_put1 (ts : List ByteArray) (s x : ByteArray) : x ∈ put1 ts s ↔ x ∈ ts ∨ x = s := by
  unfold put1
  split
  · rename_i h
    rw [contains_iff] at h
    exact ⟨.inl, fun e => e.elim id (fun e => e ▸ h)⟩
  · simp

theorem mem_putAll (ts l : List ByteArray) (x : ByteArray) : x ∈ putAll ts l ↔ x ∈ ts ∨ x ∈ l := by
  induction l generalizing ts with
  | nil => simp [putAll]
  | cons s l ih => rw [putAll_cons, ih, mem_put1, List.mem_cons, or_assoc]

theorem nodup_sub {α : Type} : ∀ l l' : List α, l.Nodup → (∀ x ∈ l, x ∈ l') → l.length ≤ l'.length
  | [], _, _, _ => Nat.zero_le _
  | a :: l, l', hn, hs => by
    obtain ⟨s, t, rfl⟩ := List.append_of_mem (hs a (by simp))
    rw [List.nodup_cons] at hn
    have := nodup_sub l (s ++ t) hn.2 (fun x hx => by
      have h := hs x (by simp [hx])
      rw [List.mem_append, List.mem_cons] at h
      rw [List.mem_append]
      rcases h with h | rfl | h
      · exact .inl h
      · exact absurd hx hn.1
      · exact .inr h)
    simp only [List.length_cons, List.length_append] at this ⊢
    omega

/-- What u is handed in k rounds. -/
def back (ss : List ByteArray) (k : Nat) : List ByteArray := (List.range k).flatMap fun j => [ss[ss.length - 1 - j]?.getD ⟨#[]⟩, ss[j]?.getD ⟨#[]⟩]
theorem back_succ (ss : List ByteArray) (k : Nat) : back ss (k + 1) = back ss k ++ [ss[ss.length - 1 - k]?.getD ⟨#[]⟩, ss[k]?.getD ⟨#[]⟩] := by
  simp [back, List.range_succ]

theorem getD_mem {ss : List ByteArray} {j : Nat} (h : j < ss.length) : ss[j]?.getD ⟨#[]⟩ ∈ ss := by
  rw [List.getElem?_eq_getElem h]; exact List.getElem_mem h

theorem back_sub {ss : List ByteArray} {k : Nat} (hk : k ≤ ss.length) : ∀ x ∈ back ss k, x ∈ ss := by
  intro x hx
  simp only [back, List.mem_flatMap, List.mem_range, List.mem_cons, List.not_mem_nil, or_false] at hx
  obtain ⟨j, hj, e | e⟩ := hx
  · rw [e]; exact getD_mem (by omega)
  · rw [e]; exact getD_mem (by omega)

theorem back_all (ss : List ByteArray) : ∀ x ∈ ss, x ∈ back ss ss.length := by
  intro x hx
  obtain ⟨j, hj, rfl⟩ := List.mem_iff_getElem.1 hx
  simp only [back, List.mem_flatMap, List.mem_range]
  exact ⟨j, hj, by simp [hj]⟩

theorem both (ss : List ByteArray) : (putAll [] ss).Perm (putAll [] (back ss ss.length)) :=
  (List.perm_ext_iff_of_nodup (putAll_nodup List.nodup_nil _) (putAll_nodup List.nodup_nil _)).2 fun x => by
    rw [mem_putAll, mem_putAll]
    simp only [List.not_mem_nil, false_or]
    exact ⟨back_all ss x, back_sub (Nat.le_refl _) x⟩

/-- The texts by rising ranks. -/
def txt (ts : List ByteArray) (zs : List Nat) : List ByteArray := zs.map fun z => ts[z]?.getD ⟨#[]⟩

theorem txt_perm {ts : List ByteArray} {zs : List Nat} (h : Rises ts zs) : (txt ts zs).Perm ts := by
  have h1 := h.perm.map fun z => ts[z]?.getD ⟨#[]⟩
  have e : (List.range ts.length).map (fun z => ts[z]?.getD ⟨#[]⟩) = ts := by
    apply List.ext_getElem
    · simp
    · intro i h1 h2
      simp [h2]
  rwa [e] at h1

theorem txt_rise {ts : List ByteArray} {zs : List Nat} (h : Rises ts zs) : (txt ts zs).Pairwise fun a b => cmpT a b < 0 := by
  unfold txt
  rw [List.pairwise_map]
  exact h.rise

theorem txt_same {ts us : List ByteArray} {zs ys : List Nat} (hp : ts.Perm us) (h : Rises ts zs) (k : Rises us ys) : txt ts zs = txt us ys :=
  pair_uniq (fun a b => cmpT a b < 0) (fun a e => by rw [cmpT_self] at e; omega) (fun a b e1 e2 => by have := cmpT_swap a b; omega) _ _
    ((txt_perm h).trans (hp.trans (txt_perm k).symm)) (txt_rise h) (txt_rise k)

theorem txt_at {ts : List ByteArray} {zs : List Nat} (h : Rises ts zs) {i : Nat} (hi : i < ts.length) (hz : zs[i]?.getD 0 < ts.length) : (txt ts zs)[i]?.getD ⟨#[]⟩ = ts[zs[i]?.getD 0]'hz := by
  have hl : i < zs.length := by rw [h.length]; exact hi
  have hlt := h.lt (List.getElem_mem hl)
  simp only [txt, List.getElem?_map, List.getElem?_eq_getElem hl, Option.map_some, Option.getD_some, List.getElem?_eq_getElem hlt]

theorem bl_eq : ∀ a b : List UInt8, Op.bytesLess a b = decide (Lib.compareBytes a b < 0)
  | [], [] => by simp [Op.bytesLess, Lib.compareBytes]
  | _ :: _, [] => by simp [Op.bytesLess, Lib.compareBytes]
  | [], _ :: _ => by simp [Op.bytesLess, Lib.compareBytes]
  | x :: a, y :: b => by
    unfold Op.bytesLess Lib.compareBytes
    by_cases h1 : x < y
    · simp [h1]
    · by_cases h2 : y < x
      · have h3 : (x == y) = false := by
          rw [beq_eq_false_iff_ne]; rintro rfl; exact UInt8.lt_irrefl _ h2
        simp [h1, h2, h3]
      · have h3 : x = y := UInt8.le_antisymm (UInt8.not_lt.1 h2) (UInt8.not_lt.1 h1)
        subst h3
        simp [UInt8.lt_irrefl, bl_eq a b]

theorem leq_no {last s : ByteArray} (h : cmpT last s < 0) : (Op.bytesLess s.toList last.toList || s.toList == last.toList) = false := by
  rw [ByteArray.toList_eq, ByteArray.toList_eq, bl_eq, Bool.or_eq_false_iff]
  have h2 := cmpT_swap last s
  unfold cmpT at h h2
  refine ⟨by simp; omega, ?_⟩
  rw [beq_eq_false_iff_ne]
  intro e
  rw [e, cb_self] at h
  omega

end Go.Proofs.Ytdmopioiaaecfaa
