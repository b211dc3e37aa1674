/- The faults of a program, plainly. -/
import Derived.Test.YtpnjmldbohecdaaEG
namespace Go.Proofs.Ytpnjmldbohecdaa
open Go.RowKit Go.Maps Go.Shelf

/-- What is loose among places, each at its first place. -/
def lf (bs ps : List (Int × ByteArray)) : List (Int × ByteArray) := (sel newC ps).filter (fun p => !inB (namesP bs) p.2)
theorem looseP_lf (x : Ru) : looseP x = lf (bindP x.body) (placesR x) := looseP_eq x
theorem lf_take (bs : List (Int × ByteArray)) {ps : List (Int × ByteArray)} {j : Nat} (h : j < ps.length) : lf bs (ps.take (j + 1)) = lf bs (ps.take j) ++ (if inB (onceN bs ++ namesP (lf bs (ps.take j))) ps[j].2 then [] else [ps[j]]) := by
  unfold lf
  rw [sel_take newC h, List.filter_append]
  congr 1
  have hin : inB (onceN bs ++ namesP ((sel newC (ps.take j)).filter (fun p => !inB (namesP bs) p.2))) ps[j].2 = true ↔ (ps[j].2 ∈ namesP bs ∨ newC (ps.take j) ps[j] = false) := by
    rw [inB_iff, List.mem_append]
    have h1 : ps[j].2 ∈ onceN bs ↔ ps[j].2 ∈ namesP bs := new_names
    rw [h1]
    constructor
    · rintro (h | h)
      · exact .inl h
      · obtain ⟨q, hq, he⟩ := namesP_mem.1 h
        have : ps[j].2 ∈ namesP (sel newC (ps.take j)) := namesP_mem.2 ⟨q, (List.mem_filter.1 hq).1, he⟩
        rw [new_names] at this
        refine .inr ?_
        unfold newC
        rw [(inB_iff _ _).2 (show ps[j].2 ∈ (ps.take j).map (·.2) from this)]
        rfl
    · rintro (h | h)
      · exact .inl h
      · by_cases hb : ps[j].2 ∈ namesP bs
        · exact .inl hb
        · refine .inr ?_
          have hm : ps[j].2 ∈ namesP (ps.take j) := by
            unfold newC at h
            have : inB ((ps.take j).map (·.2)) ps[j].2 = true := by simpa using h
            exact (inB_iff _ _).1 this
          rw [← new_names] at hm
          obtain ⟨q, hq, he⟩ := namesP_mem.1 hm
          refine namesP_mem.2 ⟨q, List.mem_filter.2 ⟨hq, ?_⟩, he⟩
          rw [he, (inB_no _ _).2 hb]
          rfl
  cases hc : inB (onceN bs ++ namesP ((sel newC (ps.take j)).filter (fun p => !inB (namesP bs) p.2))) ps[j].2
  · rw [hc] at hin
    have hb : ¬ ps[j].2 ∈ namesP bs := fun h => by have := hin.2 (.inl h); cases this
    have hn : newC (ps.take j) ps[j] = true := by
      cases hx : newC (ps.take j) ps[j]
      · have := hin.2 (.inr hx); cases this
      · rfl
    rw [hn, if_pos rfl, if_neg (by simp), List.filter_cons, (inB_no _ _).2 hb]
    rfl
  · rw [if_pos rfl]
    rcases hin.1 hc with hb | hn
    · split
      · rw [List.filter_cons, (inB_iff _ _).2 hb]; rfl
      · rfl
    · rw [hn, if_neg (by simp)]; rfl
theorem lf_nil (bs : List (Int × ByteArray)) : lf bs [] = [] := rfl
theorem lf_sub (bs ps : List (Int × ByteArray)) : (lf bs ps).length ≤ ps.length := Nat.le_trans (List.length_filter_le _ _) (sel_len _ _)

/-- A program's faults: a rule's number, a literal's, a variable. -/
def faultsF : Nat → List Ru → List (Int × Int × ByteArray)
  | _, [] => []
  | k, r :: rs => (looseP r).map (fun p => ((k : Int), p)) ++ faultsF (k + 1) rs
theorem faultsF_app : ∀ (k : Nat) (xs ys : List Ru), faultsF k (xs ++ ys) = faultsF k xs ++ faultsF (k + xs.length) ys
  | k, [], ys => by simp [faultsF]
  | k, x :: xs, ys => by
    rw [List.cons_append, faultsF, faultsF, faultsF_app (k + 1) xs ys, List.append_assoc, List.length_cons, show k + 1 + xs.length = k + (xs.length + 1) by omega]
theorem faultsF_take {rs : List Ru} {i : Nat} (h : i < rs.length) : faultsF 0 (rs.take (i + 1)) = faultsF 0 (rs.take i) ++ (looseP rs[i]).map (fun p => ((i : Int), p)) := by
  rw [List.take_add_one, List.getElem?_eq_getElem h, Option.toList_some, faultsF_app, List.length_take, Nat.min_eq_left (by omega), Nat.zero_add]
  simp [faultsF]
theorem faultsF_split {rs : List Ru} {i : Nat} (h : i < rs.length) : faultsF 0 rs = faultsF 0 (rs.take i) ++ (looseP rs[i]).map (fun p => ((i : Int), p)) ++ faultsF (i + 1) (rs.drop (i + 1)) := by
  rw [← faultsF_take h]
  have := faultsF_app 0 (rs.take (i + 1)) (rs.drop (i + 1))
  rw [List.take_append_drop, List.length_take, Nat.min_eq_left (by omega), Nat.zero_add] at this
  exact this
theorem lf_le (bs : List (Int × ByteArray)) {ps : List (Int × ByteArray)} (j : Nat) : (lf bs (ps.take j)).length ≤ (lf bs ps).length := by
  have h := selF_app newC [] (ps.take j) (ps.drop j)
  rw [List.take_append_drop] at h
  unfold lf sel
  rw [h, List.filter_append, List.length_append]
  omega
theorem lf_more (bs : List (Int × ByteArray)) {ps : List (Int × ByteArray)} {j : Nat} (h : j < ps.length) (hc : inB (onceN bs ++ namesP (lf bs (ps.take j))) ps[j].2 = false) : (lf bs (ps.take j)).length + 1 ≤ (lf bs ps).length := by
  have h1 := lf_le bs (ps := ps) (j + 1)
  rw [lf_take bs h, hc, if_neg (by simp), List.length_append] at h1
  simpa using h1
theorem faults_few {rs : List Ru} {i n : Nat} (h : i < rs.length) (hn : (faultsF 0 rs).length ≤ n) : (faultsF 0 (rs.take i)).length + (looseP rs[i]).length ≤ n := by
  rw [faultsF_split h] at hn
  simp only [List.length_append, List.length_map] at hn
  omega
def encLo (p : Int × Int × ByteArray) : List Value := [.int .i64 p.1, .int .i64 p.2.1, .string p.2.2]
theorem encLoOk : EncOk 3 encLo := ⟨fun _ => rfl, fun _ u hu => by simp [encLo] at hu; rcases hu with rfl | rfl | rfl <;> rfl, by decide⟩
theorem infoLo : (Try.prog.info? 45).map (fun i => (i.zero, i.size, i.bytes)) = some (some (.agg #[.int .i64 0, .int .i64 0, .string ⟨#[]⟩]), 3, 32) := by kernel_rfl
end Go.Proofs.Ytpnjmldbohecdaa
