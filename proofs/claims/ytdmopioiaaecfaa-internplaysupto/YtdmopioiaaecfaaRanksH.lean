/- ranks: the lists that are told are the caller's own. Its parts. -/
import Derived.Test.YtdmopioiaaecfaaRisingB
import Derived.Test.YtdmopioiaaecfaaPairB
namespace Go.Proofs.Ytdmopioiaaecfaa
open Go.RowKit Go.Maps

/-- An append leaves the first places of the block in which the list lay. -/
theorem append_keepsI {w : World} (ty : TypeId) (i : TypeInfo) (hi : Try.prog.info? 3 = some i) (hz : i.zero = some (.int .i64 0)) (hsize : i.size = 1) (hby : i.bytes = 8) (base : Nat)
    (g n cap : Nat) (xs : List Value) (hown : w.ownsRow base 3 1 (.slice (some ⟨g, 0, none⟩) n cap) n xs) (a : Addr) (c : Nat) (u : Value) (hnews : ∀ j x, [u][j]? = some x → w.cell? (a.add j) = some x) (h1 : u.oneCell' = true)
    (h63 : n + 1 ≤ maxLen) (hbytes : (n + 1) * 8 ≤ 140737488355328) (hbase : base ≤ w.heap.size) :
    ∃ v' w', (Builtin.append_ #[31, 31] ty #[.slice (some ⟨g, 0, none⟩) n cap, .slice (some a) 1 c]).run Try.prog w = .ok v' w' ∧ w'.ownsRow base 3 1 v' (n + 1) (xs ++ [u]) ∧ w.grownBy w' (some g) ∧
      (v'.ownBlock = some g ∨ v'.ownBlock = some w.heap.size) ∧ ∀ j, j < n → w'.cell? ⟨g, j, none⟩ = w.cell? ⟨g, j, none⟩ := by
  obtain ⟨v', w', hr, h2, h3, _, h5⟩ := run_append_own_at (P := Try.prog) w base 31 ty 3 i (.int .i64 0) 1 8 Try.underlying31 hi hz hsize hby rfl (by decide) _ n xs hown a 1 c [u] rfl hnews (by simpa using h1) h63 hbytes hbase
  refine ⟨v', w', hr, h2, h3, h5, fun j hj => ?_⟩
  have holds : ∀ j x, xs[j]? = some x → w.cell? ((⟨g, 0, none⟩ : Addr).add j) = some x := hown.cells (g := g) rfl
  have hlx : xs.length = n := by simpa using hown.1
  by_cases hroom : n + 1 ≤ cap
  · rcases hown.2 with ⟨hx, _⟩ | ⟨g', cap', cur, hv, _, hh, k1, k2, k3, k4⟩
    · simp at hx
    · simp only [Value.slice.injEq, Option.some.injEq, Addr.mk.injEq, and_true, true_and] at hv
      obtain ⟨rfl, rfl⟩ := hv
      have e := run_append_room (P := Try.prog) w 31 ty 3 i Try.underlying31 hi g n cap cur hh a 1 c [u] (by simp [hsize]) hnews (by simpa using h1) hroom (by simp [hsize]; omega)
      rw [e] at hr
      simp only [Result.ok.injEq] at hr
      obtain ⟨rfl, rfl⟩ := hr
      have hc2 := h2.cells (g := g) rfl
      have hx : xs[j]? = some (xs[j]'(by omega)) := by simp
      have e1 := holds j _ hx
      have e2 := hc2 j _ (by rw [List.getElem?_append_left (by omega)]; exact hx)
      rw [add_at, Nat.zero_add] at e1 e2
      rw [e1, e2]
  · have e := run_append_grow (P := Try.prog) w 31 ty 3 i (.int .i64 0) Try.underlying31 hi hz ⟨g, 0, none⟩ n cap xs (by simpa [hsize] using hlx) holds a 1 c [u] (by simp [hsize]) hnews (by omega) (by unfold maxLen at h63; omega) (by rw [hby]; exact growslice_fits (by omega) hbytes)
    rw [e] at hr
    simp only [Result.ok.injEq] at hr
    obtain ⟨_, rfl⟩ := hr
    have hg : g < w.heap.size := (hown.lt g rfl).2
    exact World.cell?_of_block (a := ⟨g, j, none⟩) (Below.heap_alloc w.drew _ g hg)

theorem wpList_append_keepsI {w : World} {ops : Array Oper} {rest : List Oper} {o : Oper} {a : Act} {Q : Exit → Act → World → Prop} (hgd : o.guard = none) (s x : Operand)
    (ho : o.op = .call { callee := .builtin .append, args := #[s, x], argTypes := #[31, 31] }) (i : TypeInfo) (hi : Try.prog.info? 3 = some i) (hz : i.zero = some (.int .i64 0)) (hsize : i.size = 1) (hby : i.bytes = 8) (base : Nat)
    (g n cap : Nat) (xs : List Value) (hs : a.eval s = .slice (some ⟨g, 0, none⟩) n cap) (hown : w.ownsRow base 3 1 (.slice (some ⟨g, 0, none⟩) n cap) n xs) (ad : Addr) (c : Nat) (u : Value) (hx : a.eval x = .slice (some ad) 1 c)
    (hnews : ∀ j x, [u][j]? = some x → w.cell? (ad.add j) = some x) (h1 : u.oneCell' = true) (h63 : n + 1 ≤ maxLen) (hbytes : (n + 1) * 8 ≤ 140737488355328) (hbase : base ≤ w.heap.size)
    (h : ∀ v' w', w'.ownsRow base 3 1 v' (n + 1) (xs ++ [u]) → w.grownBy w' (some g) → (v'.ownBlock = some g ∨ v'.ownBlock = some w.heap.size) → (∀ j, j < n → w'.cell? ⟨g, j, none⟩ = w.cell? ⟨g, j, none⟩) → wpList Try.prog ops Q rest (a.put o.dst v') w') :
    wpList Try.prog ops Q (o :: rest) a w := by
  refine wpList_plain hgd fun K hK => ?_
  obtain ⟨v', w', hr, k1, k2, k3, k4⟩ := append_keepsI (w := w) o.type i hi hz hsize hby base g n cap xs hown ad c u hnews h1 h63 hbytes hbase
  unfold Oper.wp execOp
  simp only [ho, resolve, invoke, builtin, Sem.run_bind, Sem.run_pure, Result.andThen_ok, List.map_toArray, List.map_cons, List.map_nil, hs, hx, hr]
  exact hK _ _ (h v' w' k1 k2 k3 k4)

/-- .. whatever the list lay in. -/
theorem append_keep0 {w : World} (ty : TypeId) (i : TypeInfo) (hi : Try.prog.info? 3 = some i) (hz : i.zero = some (.int .i64 0)) (hsize : i.size = 1) (hby : i.bytes = 8) (base : Nat)
    (v : Value) (n : Nat) (xs : List Value) (hown : w.ownsRow base 3 1 v n xs) (a : Addr) (c : Nat) (u : Value) (hnews : ∀ j x, [u][j]? = some x → w.cell? (a.add j) = some x) (h1 : u.oneCell' = true)
    (h63 : n + 1 ≤ maxLen) (hbytes : (n + 1) * 8 ≤ 140737488355328) (hbase : base ≤ w.heap.size) :
    ∃ v' w', (Builtin.append_ #[31, 31] ty #[v, .slice (some a) 1 c]).run Try.prog w = .ok v' w' ∧ w'.ownsRow base 3 1 v' (n + 1) (xs ++ [u]) ∧ w.grownBy w' v.ownBlock ∧
      (v'.ownBlock = v.ownBlock ∨ v'.ownBlock = some w.heap.size) ∧ ∀ g j, v.ownBlock = some g → j < n → w'.cell? ⟨g, j, none⟩ = w.cell? ⟨g, j, none⟩ := by
  rcases id hown.2 with ⟨rfl, hn⟩ | ⟨g, cap, cur, rfl, _⟩
  · obtain ⟨v', w', hr, h2, h3, _, h5⟩ := run_append_own_at (P := Try.prog) w base 31 ty 3 i (.int .i64 0) 1 8 Try.underlying31 hi hz hsize hby rfl (by decide) _ n xs hown a 1 c [u] rfl hnews (by simpa using h1) h63 hbytes hbase
    exact ⟨v', w', hr, h2, h3, h5, fun g j hg => by simp [Value.ownBlock] at hg⟩
  · obtain ⟨v', w', hr, h2, h3, h4, h5⟩ := append_keepsI ty i hi hz hsize hby base g n cap xs hown a c u hnews h1 h63 hbytes hbase
    refine ⟨v', w', hr, h2, h3, h4, fun g' j hg hj => ?_⟩
    simp only [Value.ownBlock, Option.some.injEq] at hg
    subst hg
    exact h5 j hj

theorem wpList_append_keep0 {w : World} {ops : Array Oper} {rest : List Oper} {o : Oper} {a : Act} {Q : Exit → Act → World → Prop} (hgd : o.guard = none) (s x : Operand)
    (ho : o.op = .call { callee := .builtin .append, args := #[s, x], argTypes := #[31, 31] }) (i : TypeInfo) (hi : Try.prog.info? 3 = some i) (hz : i.zero = some (.int .i64 0)) (hsize : i.size = 1) (hby : i.bytes = 8) (base : Nat)
    (v : Value) (n : Nat) (xs : List Value) (hs : a.eval s = v) (hown : w.ownsRow base 3 1 v n xs) (ad : Addr) (c : Nat) (u : Value) (hx : a.eval x = .slice (some ad) 1 c)
    (hnews : ∀ j x, [u][j]? = some x → w.cell? (ad.add j) = some x) (h1 : u.oneCell' = true) (h63 : n + 1 ≤ maxLen) (hbytes : (n + 1) * 8 ≤ 140737488355328) (hbase : base ≤ w.heap.size)
    (h : ∀ v' w', w'.ownsRow base 3 1 v' (n + 1) (xs ++ [u]) → w.grownBy w' v.ownBlock → (v'.ownBlock = v.ownBlock ∨ v'.ownBlock = some w.heap.size) → (∀ g j, v.ownBlock = some g → j < n → w'.cell? ⟨g, j, none⟩ = w.cell? ⟨g, j, none⟩) → wpList Try.prog ops Q rest (a.put o.dst v') w') :
    wpList Try.prog ops Q (o :: rest) a w := by
  refine wpList_plain hgd fun K hK => ?_
  obtain ⟨v', w', hr, k1, k2, k3, k4⟩ := append_keep0 (w := w) o.type i hi hz hsize hby base v n xs hown ad c u hnews h1 h63 hbytes hbase
  unfold Oper.wp execOp
  simp only [ho, resolve, invoke, builtin, Sem.run_bind, Sem.run_pure, Result.andThen_ok, List.map_toArray, List.map_cons, List.map_nil, hs, hx, hr]
  exact hK _ _ (h v' w' k1 k2 k3 k4)

/-- What Ranks and Rising of both tell, whenever they are asked. -/
structure RkC (W : World) (p q : Value) (n : Nat) (X Y : List Int) : Prop where
  lens : X.length = n ∧ Y.length = n ∧ n ≤ 8796093022208
  c29 : ∀ W1, Below W.heap.size W W1 → Calls Try.prog 29 #[p] W1 fun e w' => ∃ a c, e = .returned (.slice a n c) ∧ w'.ownsRow W1.heap.size 3 1 (.slice a n c) n (X.map (Value.int .i64)) ∧ Below W1.heap.size W1 w'
  c28 : ∀ W1, Below W.heap.size W W1 → Calls Try.prog 28 #[p] W1 fun e w' => ∃ a c, e = .returned (.slice a n c) ∧ w'.ownsRow W1.heap.size 3 1 (.slice a n c) n (Y.map (Value.int .i64)) ∧ Below W1.heap.size W1 w'
  c43 : ∀ W1, Below W.heap.size W W1 → Calls Try.prog 43 #[q] W1 fun e w' => ∃ a b c, e = .returned (.slice a n c) ∧ IntsS w' a b 0 X ∧ Below W1.heap.size W1 w'
  c44 : ∀ W1, Below W.heap.size W W1 → Calls Try.prog 44 #[q] W1 fun e w' => ∃ a b c, e = .returned (.slice a n c) ∧ IntsS w' a b 0 Y ∧ Below W1.heap.size W1 w'

theorem ints_none (w : World) (a : Option Addr) : IntsS w a 0 0 [] := ⟨fun h => absurd h (Nat.lt_irrefl _), fun j hj => by simp at hj⟩

theorem rkc_no (W : World) : RkC W (.pointer none) (.pointer none) 0 [] [] := by
  refine ⟨⟨rfl, rfl, by omega⟩, fun W1 hB => ?_, fun W1 hB => ?_, fun W1 hB => ?_, fun W1 hB => ?_⟩
  · refine (ranks_no W1 _ (made_nil W1)).mono ?_
    rintro e w' ⟨rfl, rfl⟩
    exact ⟨_, _, rfl, World.ownsRow_nil _ _ _ _, Below.refl _ _⟩
  · refine (rising_no W1 none (fun W' _ => made_nil W')).mono ?_
    rintro e w' ⟨rfl, hB'⟩
    exact ⟨_, _, rfl, World.ownsRow_nil _ _ _ _, hB'⟩
  · refine (rranks_no W1).mono ?_
    rintro e w' ⟨rfl, rfl⟩
    exact ⟨_, 0, _, rfl, ints_none _ _, Below.refl _ _⟩
  · refine (rrising_no W1).mono ?_
    rintro e w' ⟨⟨a, rfl⟩, hB'⟩
    exact ⟨_, 0, _, rfl, ints_none _ _, hB'⟩

theorem rkc_yes {W : World} {P : Nat → Prop} {p q : Value} {ts : List ByteArray} (h : Two W P p q ts) (hl : ts.length ≤ 8796093022208) : ∃ X Y, RkC W p q ts.length X Y := by
  obtain ⟨bt, bm, g, cap, br, sv, rfl, rfl, hT, hR, hd, hP⟩ := h
  obtain ⟨zs, hz⟩ := rises_ex hT.nodup
  have hlt := hT.lt
  have hT' : ∀ W1, Below W.heap.size W W1 → Tab W1 bt bm g cap ts := fun W1 hB => hT.kept (Turn.of_below hB) (by rintro k (rfl | rfl | rfl) <;> omega)
  have hzl := hz.length
  have hrl : (rks zs).length = ts.length := by simp [rks, hzl]
  refine ⟨(rks zs).map Int.ofNat, zs.map Int.ofNat, ⟨by simpa using hrl, by simpa using hzl, hl⟩, fun W1 hB => ?_, fun W1 hB => ?_, fun W1 hB => ?_, fun W1 hB => ?_⟩
  · refine (ranks_yes (hT' W1 hB) (le16' hl)).mono ?_
    rintro e w' ⟨b, ys, rfl, hb, hy, hI, hB'⟩
    obtain rfl := hy.uniq hz
    exact ⟨_, _, rfl, own_intsAt hI (by simpa using hrl) hb (by unfold maxLen; omega), hB'⟩
  · refine (callsIn_wide.1 (rising_own (hT' W1 hB) (le16' hl))).mono ?_
    rintro e w' ⟨b, c, ys, rfl, hb, hy, hI, hB', hc⟩
    obtain rfl := hy.uniq hz
    exact ⟨_, _, rfl, own_intsAt hI (by simpa using hzl) hb hc, hB'⟩
  · refine (rranks_yes (hR.below hB) hl).mono ?_
    rintro e w' ⟨v, rfl, hr, hB'⟩
    rw [cnts_rks hz] at hr
    obtain ⟨h1, a, b, c, rfl, hI, _⟩ := row_ints hr
    exact ⟨a, b, c, by rw [← h1], hI, hB'⟩
  · refine (rrising_yes (hR.below hB) hl zs hz).mono ?_
    rintro e w' ⟨v, rfl, hr, hB'⟩
    obtain ⟨h1, a, b, c, rfl, hI, _⟩ := row_ints hr
    exact ⟨a, b, c, by rw [← h1], hI, hB'⟩
end Go.Proofs.Ytdmopioiaaecfaa
