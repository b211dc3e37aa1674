/- The plain part: what the map of a table of texts reads as, text by text; no Go text here. -/
import Derived.Maps.OwnSet
import Derived.MapKept
namespace Go.Proofs.Ytdmopioiaaecfaa
open Go.Maps

theorem lawful : LawfulBEq ByteArray := {
  eq_of_beq := fun h => (MapKept.bytes_beq _ _).1 h
  rfl := (MapKept.bytes_beq _ _).2 rfl }

def key (s : ByteArray) : Lit := .string s.data.toList
def num (n : Nat) : DataW Unit := .lit (.int .i64 n)

theorem key_inj {s t : ByteArray} (h : key s = key t) : s = t := by
  unfold key at h
  injection h with h
  exact ByteArray.ext (Array.ext' h)

theorem contains_iff (l : List ByteArray) (s : ByteArray) : l.contains s = true ↔ s ∈ l := by
  haveI := lawful
  exact List.contains_iff_mem

theorem contains_no (l : List ByteArray) (s : ByteArray) : l.contains s = false ↔ s ∉ l := by
  rw [← contains_iff, Bool.not_eq_true]

def datR : List ByteArray → DataW Unit
  | [] => .map []
  | s :: r => (datR r).put (key s) (num r.length)

/-- What the map of the texts ts reads as: each text's place. -/
def dat (ts : List ByteArray) : DataW Unit := datR ts.reverse

theorem dat_nil : dat [] = .map [] := rfl
theorem dat_snoc (ts : List ByteArray) (s : ByteArray) : dat (ts ++ [s]) = (dat ts).put (key s) (num ts.length) := by
  simp [dat, datR]

theorem isMap_datR : ∀ l : List ByteArray, IsMap (datR l)
  | [] => isMap_empty
  | _ :: r => (isMap_datR r).put _ _

theorem has_datR (s : ByteArray) : ∀ l : List ByteArray, has (datR l) (key s) = l.contains s
  | [] => by simp [datR, has]
  | t :: r => by
    haveI := lawful
    unfold datR
    by_cases h : s = t
    · subst h
      rw [has_put_same (isMap_datR r) (by simp [key, WideAt.IsKeyLit])]
      simp
    · rw [has_put_other (fun e => h (key_inj e)), has_datR s r]
      simp [h]

theorem has_dat (ts : List ByteArray) (s : ByteArray) : has (dat ts) (key s) = ts.contains s := by
  unfold dat
  rw [has_datR, Bool.eq_iff_iff, contains_iff, contains_iff, List.mem_reverse]

theorem at_datR (s : ByteArray) (z : DataW Unit) : ∀ l : List ByteArray, l.Nodup → s ∈ l → (datR l).atKey (key s) z = num (l.reverse.idxOf s)
  | [], _, h => by simp at h
  | t :: r, hd, h => by
    haveI := lawful
    rw [List.nodup_cons] at hd
    unfold datR
    by_cases e : s = t
    · subst e
      rw [atKey_put_same (isMap_datR r) (by simp [key, WideAt.IsKeyLit])]
      rw [List.reverse_cons, List.idxOf_append, if_neg (by simpa using hd.1)]
      simp
    · have hr : s ∈ r := by simpa [e] using h
      rw [atKey_put_other (fun e' => e (key_inj e')), at_datR s z r hd.2 hr]
      rw [List.reverse_cons, List.idxOf_append, if_pos (by simpa using hr)]

theorem nodup_rev {ts : List ByteArray} (h : ts.Nodup) : ts.reverse.Nodup := by
  unfold List.Nodup at *
  rw [List.pairwise_reverse]
  exact h.imp fun e => Ne.symm e

theorem at_dat {ts : List ByteArray} (hd : ts.Nodup) {s : ByteArray} (h : s ∈ ts) (z : DataW Unit) : (dat ts).atKey (key s) z = num (ts.idxOf s) := by
  unfold dat
  rw [at_datR s z ts.reverse (nodup_rev hd) (by simpa using h), List.reverse_reverse]

theorem at_datR_none (s : ByteArray) (z : DataW Unit) : ∀ l : List ByteArray, s ∉ l → (datR l).atKey (key s) z = z
  | [], _ => by simp [datR, DataW.atKey]
  | t :: r, h => by
    rw [List.mem_cons, not_or] at h
    unfold datR
    rw [atKey_put_other (fun e' => h.1 (key_inj e')), at_datR_none s z r h.2]

theorem at_dat_none {ts : List ByteArray} {s : ByteArray} (h : s ∉ ts) (z : DataW Unit) : (dat ts).atKey (key s) z = z :=
  at_datR_none s z _ (by simpa using h)

/-- The texts behind a text put. -/
def put1 (ts : List ByteArray) (s : ByteArray) : List ByteArray := if ts.contains s = true then ts else ts ++ [s]
def putAll (ts : List ByteArray) (l : List ByteArray) : List ByteArray := l.foldl put1 ts
/-- The numbers that are told as they are put. -/
def nums (ts : List ByteArray) : List ByteArray → List Nat
  | [] => []
  | s :: r => (put1 ts s).idxOf s :: nums (put1 ts s) r

theorem put1_nodup {ts : List ByteArray} (h : ts.Nodup) (s : ByteArray) : (put1 ts s).Nodup := by
  unfold put1
  split
  · exact h
  · rename_i hn
    rw [contains_iff] at hn
    rw [List.nodup_append]
    refine ⟨h, by simp, ?_⟩
    intro a ha b hb
    rw [List.mem_singleton] at hb
    subst hb
    exact fun e => hn (e ▸ ha)

theorem put1_len (ts : List ByteArray) (s : ByteArray) : ts.length ≤ (put1 ts s).length ∧ (put1 ts s).length ≤ ts.length + 1 := by
  unfold put1
  split <;> simp

theorem idx_snoc {ts : List ByteArray} {s : ByteArray} (h : s ∉ ts) : (ts ++ [s]).idxOf s = ts.length := by
  haveI := lawful
  rw [List.idxOf_append, if_neg h]
  simp

/-- The number that Find tells. -/
def found (ts : List ByteArray) (s : ByteArray) : Nat := if ts.contains s = true then ts.idxOf s else 0

theorem found_at {ts : List ByteArray} (hd : ts.Nodup) {s : ByteArray} {c : Int} (h : (dat ts).atKey (key s) (.lit (.int .i64 0)) = .lit (.int .i64 c)) : c = found ts s := by
  unfold found
  by_cases hc : ts.contains s = true
  · rw [if_pos hc]
    rw [at_dat hd ((contains_iff _ _).1 hc)] at h
    simp only [num, DataW.lit.injEq, Lit.int.injEq, true_and] at h
    exact h.symm
  · rw [if_neg hc]
    rw [at_dat_none (by rw [← contains_iff]; exact hc)] at h
    simp only [DataW.lit.injEq, Lit.int.injEq, true_and] at h
    exact h.symm

theorem putAll_cons (ts l : List ByteArray) (s : ByteArray) : putAll ts (s :: l) = putAll (put1 ts s) l := rfl
theorem putAll_nil (ts : List ByteArray) : putAll ts [] = ts := rfl
theorem putAll_snoc (ts l : List ByteArray) (s : ByteArray) : putAll ts (l ++ [s]) = put1 (putAll ts l) s := by simp [putAll]

theorem nums_snoc (ts l : List ByteArray) (s : ByteArray) : nums ts (l ++ [s]) = nums ts l ++ [(put1 (putAll ts l) s).idxOf s] := by
  induction l generalizing ts with
  | nil => simp [nums, putAll]
  | cons t r ih => simp [nums, ih, putAll_cons]

theorem nums_length (ts l : List ByteArray) : (nums ts l).length = l.length := by
  induction l generalizing ts with
  | nil => rfl
  | cons t r ih => simp [nums, ih]

theorem putAll_nodup {ts : List ByteArray} (h : ts.Nodup) (l : List ByteArray) : (putAll ts l).Nodup := by
  induction l generalizing ts with
  | nil => exact h
  | cons t r ih => exact ih (put1_nodup h t)

theorem putAll_len (ts l : List ByteArray) : ts.length ≤ (putAll ts l).length ∧ (putAll ts l).length ≤ ts.length + l.length := by
  induction l generalizing ts with
  | nil => simp [putAll]
  | cons t r ih =>
    have h1 := ih (put1 ts t)
    have h2 := put1_len ts t
    rw [putAll_cons]
    simp only [List.length_cons]
    omega

end Go.Proofs.Ytdmopioiaaecfaa
