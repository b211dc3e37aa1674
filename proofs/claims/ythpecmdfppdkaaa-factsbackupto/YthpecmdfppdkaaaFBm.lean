/- What is written is read again: plainly. No walk here. -/
import Derived.Test.YthpecmdfppdkaaaFTm
namespace Go.Proofs.Ythpecmdfppdkaaa
open Go.RowKit Go.Maps

theorem lskip_lskip (a b : Nat) (r : LR) : lskip a (lskip b r) = lskip (a + b) r := by
  obtain ⟨x, y⟩ := r
  cases y <;> simp [lskip, Nat.add_assoc]
theorem walkP_byte (c : List UInt8) (b : UInt8) (rest : List UInt8) (h : c.length < 1024) : walkP c (escB b ++ rest) = lskip (escB b).length (walkP (c ++ [b]) rest) := by
  have h1 : c.length ≠ 1024 := by omega
  unfold escB
  by_cases h9 : b = 9
  · subst h9
    simp [walkP, walkE, turnB, h1, lskip_lskip]
  · rw [if_neg h9]
    by_cases h10 : b = 10
    · subst h10
      simp [walkP, walkE, turnB, h1, lskip_lskip]
    · rw [if_neg h10]
      by_cases h92 : b = 92
      · subst h92
        simp [walkP, walkE, turnB, h1, lskip_lskip]
      · rw [if_neg h92]
        simp [walkP, h1, h9, h10, h92]
theorem walkP_esc : ∀ (y c rest : List UInt8), c.length + y.length ≤ 1024 → walkP c (escL y ++ rest) = lskip (escL y).length (walkP (c ++ y) rest)
  | [], c, rest, _ => by
    simp only [escL, List.flatMap_nil, List.nil_append, List.append_nil, List.length_nil]
    obtain ⟨x, z⟩ := walkP c rest
    cases z <;> simp [lskip]
  | b :: y, c, rest, h => by
    have e : escL (b :: y) = escB b ++ escL y := rfl
    rw [e, List.append_assoc, walkP_byte c b _ (by simp at h; omega), walkP_esc y (c ++ [b]) rest (by simp at h ⊢; omega), lskip_lskip, List.length_append, List.append_assoc]
    rfl
/-- A line's constants come back. -/
theorem split_line : ∀ (t : List (List UInt8)), t ≠ [] → (∀ y ∈ t, y.length ≤ 1024) → splitT (lineL t) = (t, none)
  | [], h, _ => absurd rfl h
  | [y], _, h => by
    have := walkP_esc y [] [] (by have := h y (by simp); simpa using this)
    rw [List.append_nil, List.nil_append] at this
    show walkP [] (escL y) = _
    rw [this]
    simp [walkP, lskip]
  | y :: x :: r, _, h => by
    have ih := split_line (x :: r) (by simp) (fun z hz => h z (List.mem_cons_of_mem _ hz))
    show walkP [] (escL y ++ 9 :: lineL (x :: r)) = _
    rw [walkP_esc y [] _ (by have := h y (by simp); simpa using this), List.nil_append, walkP, if_pos rfl]
    unfold splitT at ih
    rw [ih]; rfl
theorem escB_no (b x : UInt8) (h : x ∈ escB b) : x ≠ 10 := by
  unfold escB at h
  split at h
  · simp at h; rcases h with rfl | rfl <;> decide
  · split at h
    · simp at h; rcases h with rfl | rfl <;> decide
    · split at h
      · simp at h; subst h; decide
      · rename_i h10 _; simp at h; subst h; exact h10
theorem escL_no (y : List UInt8) : ∀ x ∈ escL y, x ≠ 10 := fun x hx => by
  obtain ⟨b, _, hb⟩ := List.mem_flatMap.1 hx
  exact escB_no b x hb
theorem lineL_no : ∀ (t : List (List UInt8)), ∀ x ∈ lineL t, x ≠ 10
  | [], x, h => by simp [lineL] at h
  | [y], x, h => escL_no y x h
  | y :: z :: r, x, h => by
    rw [lineL] at h
    rcases List.mem_append.1 h with h | h
    · exact escL_no y x h
    · rcases List.mem_cons.1 h with h | h
      · subst h; decide
      · exact lineL_no (z :: r) x h
theorem lns_line : ∀ (x c : List UInt8) (s : Nat) (rest : List UInt8), (∀ b ∈ x, b ≠ 10) → lns s c (x ++ 10 :: rest) = (s, c ++ x) :: lns (s + (c ++ x).length + 1) [] rest
  | [], c, s, rest, _ => by simp [lns]
  | b :: x, c, s, rest, h => by
    rw [List.cons_append, lns, if_neg (h b (by simp)), lns_line x (c ++ [b]) s rest (fun y hy => h y (List.mem_cons_of_mem _ hy))]
    simp
theorem lns_lines : ∀ (ts : List (List ByteArray)) (s : Nat), (lns s [] (linesL ts)).map Prod.snd = ts.map fun t => lineL (dat t)
  | [], s => by simp [linesL, lns]
  | t :: ts, s => by
    rw [linesL, lns_line _ _ _ _ (lineL_no (dat t)), List.map_cons, List.nil_append, lns_lines ts]
    rfl
/-- What is written is read. -/
theorem read_back {ts : List (List ByteArray)} {z : Int} (h : refZ ts z = 0) : readT (linesL ts) z = (ts.map dat, -1, 0) := by
  obtain ⟨h1, h2, h3⟩ := refZ_zero h
  obtain ⟨n, rfl⟩ : ∃ n : Nat, z = (n : Int) := ⟨z.toNat, by omega⟩
  have hl := lns_lines ts 0
  have each : ∀ x ∈ lns 0 [] (linesL ts), ∃ t ∈ ts, x.2 = lineL (dat t) := fun x hx => by
    have : x.2 ∈ (lns 0 [] (linesL ts)).map Prod.snd := List.mem_map.2 ⟨x, hx, rfl⟩
    rw [hl] at this
    obtain ⟨t, ht, e⟩ := List.mem_map.1 this
    exact ⟨t, ht, e.symm⟩
  have small : ∀ t ∈ ts, ∀ y ∈ dat t, y.length ≤ 1024 := fun t ht y hy => by
    obtain ⟨s, hs, rfl⟩ := List.mem_map.1 hy
    have := (h3 t ht).2 s hs
    show s.data.toList.length ≤ 1024
    rw [data_len]; exact this
  have spl : ∀ t ∈ ts, (splitT (lineL (dat t))).2 = none ∧ (dat t ≠ [] → (splitT (lineL (dat t))).1 = dat t) := fun t ht => by
    by_cases e : dat t = []
    · rw [e]; exact ⟨rfl, fun h => absurd rfl h⟩
    · rw [split_line _ e (small t ht)]; exact ⟨rfl, fun _ => rfl⟩
  have hlen : ∀ t ∈ ts, (dat t).length = n := fun t ht => by have := (h3 t ht).1; rw [dat_len]; omega
  have hsc : scanT (linesL ts) = none := eachT_none.2 fun x hx => by
    obtain ⟨t, ht, e⟩ := each x hx
    rw [e]; exact (spl t ht).1
  have htup : ∀ t ∈ ts, tupL (lineL (dat t)) n = dat t := fun t ht => by
    unfold tupL
    have := hlen t ht
    by_cases hn : n = 0
    · rw [if_pos hn]; exact (List.eq_nil_of_length_eq_zero (by omega)).symm
    · rw [if_neg hn]; exact (spl t ht).2 (fun e => by rw [e] at this; simp at this; omega)
  have har : eachT (arT n) (lns 0 [] (linesL ts)) = none := eachT_none.2 fun x hx => by
    obtain ⟨t, ht, e⟩ := each x hx
    rw [e]
    unfold arT fieldsZ
    rw [if_pos]
    have hl' := hlen t ht
    by_cases hn : n = 0
    · have e0 : dat t = [] := List.eq_nil_of_length_eq_zero (by omega)
      rw [e0, if_pos ⟨rfl, by omega⟩]; omega
    · rw [if_neg (by omega)]
      have h5 := split_count (spl t ht).1
      rw [(spl t ht).2 (fun e => by rw [e] at hl'; simp at hl'; omega)] at h5
      omega
  unfold readT
  rw [if_pos (by simp; omega), hsc]
  dsimp only
  rw [Int.toNat_natCast, har]
  dsimp only
  congr 1
  have : (lns 0 [] (linesL ts)).map (fun x => tupL x.2 n) = ((lns 0 [] (linesL ts)).map Prod.snd).map (fun x => tupL x n) := by rw [List.map_map]; rfl
  rw [this, hl, List.map_map]
  exact List.map_congr_left fun t ht => htup t ht
theorem toG_dat (ts : List (List ByteArray)) : toG (ts.map dat) = ts := by
  unfold toG
  rw [List.map_map]
  conv => rhs; rw [← List.map_id ts]
  exact List.map_congr_left fun t _ => toB_dat t
/-- How many of these bytes are escaped. -/
def cntE (l : List UInt8) : Nat := l.countP fun b => b == 9 || b == 10 || b == 92
theorem cntE_take {l : List UInt8} {k : Nat} (h : k < l.length) : cntE (l.take (k + 1)) = cntE (l.take k) + if (l[k] == 9 || l[k] == 10 || l[k] == 92) = true then 1 else 0 := by
  unfold cntE
  rw [List.take_succ_eq_append_getElem h, List.countP_append, List.countP_singleton]
theorem cntE_le (l : List UInt8) : cntE l ≤ l.length := List.countP_le_length
theorem escL_cnt : ∀ l : List UInt8, (escL l).length = l.length + cntE l
  | [] => rfl
  | b :: l => by
    have ih := escL_cnt l
    have e : escL (b :: l) = escB b ++ escL l := rfl
    rw [e, List.length_append, ih]
    unfold cntE
    rw [List.countP_cons, List.length_cons]
    unfold escB
    by_cases h9 : b = 9
    · simp [h9]; omega
    · by_cases h10 : b = 10
      · simp [h10]; omega
      · by_cases h92 : b = 92
        · simp [h92]; omega
        · simp [h9, h10, h92]; omega
/-- The bytes of constants, escaped. -/
def sumE : List (List UInt8) → Nat
  | [] => 0
  | y :: r => y.length + cntE y + sumE r
theorem sumE_app : ∀ (a b : List (List UInt8)), sumE (a ++ b) = sumE a + sumE b
  | [], b => by simp [sumE]
  | x :: a, b => by rw [List.cons_append, sumE, sumE, sumE_app a b]; omega
theorem lineL_size : ∀ t : List (List UInt8), (lineL t).length = sumE t + (t.length - 1)
  | [] => rfl
  | [y] => by rw [lineL, escL_cnt]; simp [sumE]
  | y :: x :: r => by
    rw [lineL, List.length_append, List.length_cons, escL_cnt, lineL_size (x :: r)]
    simp [sumE]; omega
/-- What the law counts. -/
def sizeG : List (List ByteArray) → Nat
  | [] => 0
  | t :: r => 1 + (t.length - 1) + sumE (dat t) + sizeG r
theorem sizeG_app : ∀ (a b : List (List ByteArray)), sizeG (a ++ b) = sizeG a + sizeG b
  | [], b => by simp [sizeG]
  | x :: a, b => by rw [List.cons_append, sizeG, sizeG, sizeG_app a b]; omega
theorem sizeG_lines : ∀ ts : List (List ByteArray), sizeG ts = (linesL ts).length
  | [] => rfl
  | t :: r => by
    rw [sizeG, linesL, List.length_append, List.length_cons, lineL_size, dat_len, sizeG_lines r]; omega
end Go.Proofs.Ythpecmdfppdkaaa
