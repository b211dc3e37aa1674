/- The document's Quote (layer 9: of any text). -/
import Derived.Test.YtiobhadchakoiaaGreatDoorPB
import Derived.Deep.Cut
import Derived.Deep.RegionLaw
import Derived.Laws.IdiomStrings
namespace Go.Proofs.YtiobhadchakoiaaGreatDoor
open Go.RowKit Go.Maps

/-- An append to a list of one's own, as one step of a region that draws its order. -/
theorem step_append_own {P : Program} {ops : Array Oper} {o : Oper} {a : Act} {w : World} {K : Act → World → Prop} {Q : Exit → Act → World → Prop} {X : Prop}
    (hg : o.guard = none) (s x : Operand) (t : TypeId) (hop : o.op = Op.call { callee := Callee.builtin Builtin.append, args := #[s, x], argTypes := #[t, t] }) (base : Nat)
    (e : TypeId) (i : TypeInfo) (z : Value) (size bytes : Nat) (h1 : P.underlying t = some (.slice e)) (h2 : P.info? e = some i) (h3 : i.zero = some z) (h4 : i.size = size) (h5 : i.bytes = bytes) (h6 : z.cells.size = size) (h7 : 0 < size)
    (v : Value) (n : Nat) (xs : List Value) (hs : a.eval s = v) (hown : w.ownsRow base e size v n xs)
    (ad : Addr) (m c : Nat) (news : List Value) (hx : a.eval x = .slice (some ad) m c) (hn : news.length = m * size) (hc : ∀ j u, news[j]? = some u → w.cell? (ad.add j) = some u) (h1c : ∀ u ∈ news, u.oneCell' = true)
    (b1 : n + m ≤ maxLen) (b2 : (n + m) * bytes ≤ 140737488355328) (hbase : base ≤ w.heap.size)
    (hK : ∀ v' w', w'.ownsRow base e size v' (n + m) (xs ++ news) → w.grownBy w' v.ownBlock → (v' = .slice none 0 0 ↔ v = .slice none 0 0 ∧ m = 0) → (v'.ownBlock = v.ownBlock ∨ v'.ownBlock = some w.heap.size) → K (a.put o.dst v') w') :
    if Region.wanted o (yielded ops a.tmps) = true then Oper.wp P o a w K Q else X := by
  have hw : Region.wanted o (yielded ops a.tmps) = true := by simp [Region.wanted, hg]
  rw [if_pos hw]
  obtain ⟨v', w', hrun, r1, r2, r3, r4⟩ := run_append_own_at (P := P) w base t o.type e i z size bytes h1 h2 h3 h4 h5 h6 h7 v n xs hown ad m c news hn hc h1c b1 b2 hbase
  unfold Oper.wp
  simp [execOp, hop, resolve, invoke, builtin, hs, hx, hrun, Result.andThen]
  exact hK v' w' r1 r2 r3 r4


theorem byteCells_one (l : List UInt8) : ∀ u ∈ Lib.byteCells l, u.oneCell' = true := by
  intro u hu
  simp only [Lib.byteCells, List.mem_map] at hu
  obtain ⟨b, _, rfl⟩ := hu
  rfl
/-- Bytes of one's own, all that was there before as it was. -/
def BR (w W : World) (v : Value) (bs : List UInt8) : Prop := Below w.heap.size w W ∧ W.ownsRow w.heap.size 5 1 v bs.length (Lib.byteCells bs)
theorem br_step {w wr w1 : World} {v v' : Value} {bs p : List UInt8} {o : Obj} (h : BR w wr v bs) (hown : w1.ownsRow w.heap.size 5 1 v' (bs.length + p.length) (Lib.byteCells bs ++ Lib.byteCells p)) (hg : (wr.alloc o).grownBy w1 v.ownBlock) : BR w w1 v' (bs ++ p) := by
  have hs := h.1.size
  refine ⟨(h.1.alloc hs o).grown hg (by simp; omega) (fun k hk => (World.ownsRow.lt h.2 k hk).1), ?_⟩
  rw [List.length_append, byteCells_app]
  exact hown
theorem BR.draw {w W : World} {v : Value} {bs : List UInt8} (h : BR w W v bs) : BR w W.drew v bs := ⟨Below.drew h.1, h.2⟩

theorem br_string {w W : World} {g n cap : Nat} {bs : List UInt8} (h : BR w W (.slice (some ⟨g, 0, none⟩) n cap) bs) : (convert 64 9 (.slice (some ⟨g, 0, none⟩) n cap)).run Tryz.prog W = .ok (.string ⟨bs.toArray⟩) W := by
  have hn : n = bs.length := by
    rcases h.2.2 with ⟨hv, _⟩ | ⟨g', c, cur, hv, _⟩
    · cases hv
    · injection hv
  subst hn
  refine run_convert_bytes_back (P := Tryz.prog) W 64 9 5 ⟨g, 0, none⟩ cap bs Tryz.underlying64 Tryz.underlying5 Tryz.underlying9 (fun j hj => ?_)
  exact World.ownsRow.cells h.2 (g := g) rfl j _ (by simp [Lib.byteCells, hj])

set_option maxRecDepth 100000 in
set_option maxHeartbeats 4000000 in
theorem y_Quote (s : ByteArray) (w : World) (hsz : s.size ≤ 35184372088000) :
    Calls Tryz.prog 11 #[.string s] w fun e w' => e = .returned (.string ⟨(quoteL s.data.toList).toArray⟩) ∧ Stay w w' := by
  obtain ⟨i0, hi, hz0, hz1, hz2⟩ := info_parts infoU8
  obtain ⟨L, hL⟩ : ∃ L, s.data.toList = L := ⟨_, rfl⟩
  have hlen : L.length = s.size := by rw [← hL]; simp
  rw [hL]
  have HL : Hid (s.data.toList = L) := hL
  clear hL
  obtain ⟨q, hq⟩ : ∃ q, quoteL L = q := ⟨_, rfl⟩
  rw [hq]
  have HQ : Hid (34 :: L.flatMap pieceL ++ [34] = q) := by show 34 :: L.flatMap pieceL ++ [34] = q; rw [← hq]; rfl
  have HP : Hid (∀ k, ((L.take k).flatMap pieceL).length ≤ 140737488352000) := fun k => by
    have h1 := pieces_len (L.take k)
    have h2 : (L.take k).length ≤ 35184372088000 := by rw [List.length_take]; omega
    omega
  have HN : Hid (L.length = s.size) := hlen
  have HROW0 : Hid (BR w w (.slice none 0 0) []) := ⟨Below.refl _ w, World.ownsRow_nil w _ _ _⟩
  clear hq hlen
  go_enter Tryz.func11, Tryz.ntmps11
  go_wp2_with (first
    | (at_builtin; go_loud (refine wpList_append_own _ rfl _ _ 64 rfl w.heap.size 5 i0 (.int .u8 0) 1 1 Tryz.underlying64 hi hz0 hz1 hz2 rfl (by decide) _ _ _ rfl (World.ownsRow.alloc HROW0.out.2 _) ⟨w.heap.size, 0, none⟩ 1 1 (Lib.byteCells [34]) rfl rfl (new_cells w (Lib.byteCells [34]) _) (byteCells_one _) (by simp [maxLen]) (by simp) (by simp) ?_; intro v0 w0 hown' hgrow _; have HB0 : Hid (BR w w0 v0 ([] ++ [34])) := br_step HROW0.out hown' hgrow; clear hown' hgrow)))
  go_loopw [4, 3] (fun i v wr => ∃ k : Nat, k ≤ s.size ∧ i = .int .i64 (k : Int) ∧ BR w wr v (34 :: (L.take k).flatMap pieceL)) (fun i _v _ => s.size - (intOf i).toNat)
  case atStart => exact ⟨0, Nat.zero_le _, rfl, HB0.out⟩
  case round =>
    obtain ⟨k, hk, rfl, hBk⟩ := hrel
    have hsz2 := hBk.1.size
    have hpl := HP.out k
    have HROW : Hid (BR w wr _ (34 :: (L.take k).flatMap pieceL)) := hBk
    have hnl : (34 :: (L.take k).flatMap pieceL).length ≤ 140737488352001 := by simp only [List.length_cons]; omega
    clear HB0 HROW0 hBk
    by_cases hlt : k < s.size
    · have hkL : k < L.length := by rw [HN.out]; exact hlt
      have hki : (k : Int) < (s.size : Int) := by omega
      have HE : Hid (34 :: (L.take (k + 1)).flatMap pieceL = (34 :: (L.take k).flatMap pieceL) ++ pieceL s[k]) := by
        show 34 :: (L.take (k + 1)).flatMap pieceL = _
        have e1 : L[k] = s[k] := by
          have e0 : s.data.toList[k]'(by rw [HL.out]; exact hkL) = s[k] := rfl
          rw [← e0]
          congr 1
          exact HL.out.symm
        rw [List.take_succ_eq_append_getElem hkL, List.flatMap_append, e1]
        simp
      obtain ⟨c, hcc⟩ : ∃ c, s[k] = c := ⟨_, rfl⟩
      rw [hcc] at HE
      have hct : s[k].toNat = c.toNat := by rw [hcc]
      have hc : c.toNat < 256 := UInt8.toNat_lt c
      clear hcc
      by_cases h34 : c = 34
      · subst h34
        have HPC : Hid (pieceL 34 = [92, 34]) := rfl
        rw [show UInt8.toNat 34 = 34 from rfl] at hct
        go_wp2_with (first
          | (at_builtin; refine wpList_append_own _ rfl _ _ 64 rfl w.heap.size 5 i0 (.int .u8 0) 1 1 Tryz.underlying64 hi hz0 hz1 hz2 rfl (by decide) _ _ _ rfl (World.ownsRow.alloc HROW.out.2 _) ⟨wr.heap.size, 0, none⟩ 2 2 (Lib.byteCells [92, 34]) rfl rfl (new_cells wr (Lib.byteCells [92, 34]) _) (byteCells_one _) (by unfold maxLen; omega) (by omega) (by simp; omega) ?_; intro v' w1 hown' hgrow _; have HN : Hid (BR w w1 v' ((34 :: (L.take k).flatMap pieceL) ++ [92, 34])) := br_step HROW.out hown' hgrow; clear hown' hgrow))
        go_roundw
        case rel => exact ⟨k + 1, by omega, by simp, by rw [HE.out, HPC.out]; exact HN.out⟩
        case measure => simp [intOf]; omega
      by_cases h92 : c = 92
      · subst h92
        have q34 := byte_ne h34
        rw [show ((UInt8.toNat 92 : Nat) : Int) = 92 from rfl, show ((UInt8.toNat 34 : Nat) : Int) = 34 from rfl] at q34
        have HPC : Hid (pieceL 92 = [92, 92]) := rfl
        rw [show UInt8.toNat 92 = 92 from rfl] at hct
        clear h34
        go_wp2_with (first
          | (at_builtin; refine wpList_append_own _ rfl _ _ 64 rfl w.heap.size 5 i0 (.int .u8 0) 1 1 Tryz.underlying64 hi hz0 hz1 hz2 rfl (by decide) _ _ _ rfl (World.ownsRow.alloc HROW.out.2 _) ⟨wr.heap.size, 0, none⟩ 2 2 (Lib.byteCells [92, 92]) rfl rfl (new_cells wr (Lib.byteCells [92, 92]) _) (byteCells_one _) (by unfold maxLen; omega) (by omega) (by simp; omega) ?_; intro v' w1 hown' hgrow _; have HN : Hid (BR w w1 v' ((34 :: (L.take k).flatMap pieceL) ++ [92, 92])) := br_step HROW.out hown' hgrow; clear hown' hgrow))
        go_roundw
        case rel => exact ⟨k + 1, by omega, by simp, by rw [HE.out, HPC.out]; exact HN.out⟩
        case measure => simp [intOf]; omega
      have q34 := byte_ne h34
      have q92 := byte_ne h92
      rw [show ((UInt8.toNat 34 : Nat) : Int) = 34 from rfl] at q34
      rw [show ((UInt8.toNat 92 : Nat) : Int) = 92 from rfl] at q92
      by_cases h10 : c = 10
      · subst h10
        have HPC : Hid (pieceL 10 = [92, 110]) := rfl
        rw [show UInt8.toNat 10 = 10 from rfl] at hct
        clear q34 q92 h34 h92
        go_wp2_with (first
          | (at_builtin; refine wpList_append_own _ rfl _ _ 64 rfl w.heap.size 5 i0 (.int .u8 0) 1 1 Tryz.underlying64 hi hz0 hz1 hz2 rfl (by decide) _ _ _ rfl (World.ownsRow.alloc HROW.out.2 _) ⟨wr.heap.size, 0, none⟩ 2 2 (Lib.byteCells [92, 110]) rfl rfl (new_cells wr (Lib.byteCells [92, 110]) _) (byteCells_one _) (by unfold maxLen; omega) (by omega) (by simp; omega) ?_; intro v' w1 hown' hgrow _; have HN : Hid (BR w w1 v' ((34 :: (L.take k).flatMap pieceL) ++ [92, 110])) := br_step HROW.out hown' hgrow; clear hown' hgrow))
        go_roundw
        case rel => exact ⟨k + 1, by omega, by simp, by rw [HE.out, HPC.out]; exact HN.out⟩
        case measure => simp [intOf]; omega
      have q10 := byte_ne h10
      rw [show ((UInt8.toNat 10 : Nat) : Int) = 10 from rfl] at q10
      by_cases h9 : c = 9
      · subst h9
        have HPC : Hid (pieceL 9 = [92, 116]) := rfl
        rw [show UInt8.toNat 9 = 9 from rfl] at hct
        clear q34 q92 h34 h92
        clear q10
        go_wp2_with (first
          | (at_builtin; refine wpList_append_own _ rfl _ _ 64 rfl w.heap.size 5 i0 (.int .u8 0) 1 1 Tryz.underlying64 hi hz0 hz1 hz2 rfl (by decide) _ _ _ rfl (World.ownsRow.alloc HROW.out.2 _) ⟨wr.heap.size, 0, none⟩ 2 2 (Lib.byteCells [92, 116]) rfl rfl (new_cells wr (Lib.byteCells [92, 116]) _) (byteCells_one _) (by unfold maxLen; omega) (by omega) (by simp; omega) ?_; intro v' w1 hown' hgrow _; have HN : Hid (BR w w1 v' ((34 :: (L.take k).flatMap pieceL) ++ [92, 116])) := br_step HROW.out hown' hgrow; clear hown' hgrow))
        go_roundw
        case rel => exact ⟨k + 1, by omega, by simp, by rw [HE.out, HPC.out]; exact HN.out⟩
        case measure => simp [intOf]; omega
      have q9 := byte_ne h9
      rw [show ((UInt8.toNat 9 : Nat) : Int) = 9 from rfl] at q9
      have hpc : pieceL c = if plainZ (c.toNat : Int) then [c] else [92, 120, hexs.getD (c.toNat / 16) 0, hexs.getD (c.toNat % 16) 0] := by
        unfold pieceL
        rw [if_neg (not_or.2 ⟨h34, h92⟩), if_neg h10, if_neg h9]
      clear h34 h92 h10 h9
      by_cases hp : plainZ (c.toNat : Int) = true
      · rw [if_pos hp] at hpc
        have HPC : Hid (pieceL c = [c]) := hpc
        unfold plainZ at hp
        rw [Bool.and_eq_true, decide_eq_true_eq, decide_eq_true_eq] at hp
        obtain ⟨hp1, hp2⟩ := hp
        clear hpc
        go_wp2_with (first
          | (at_builtin; refine wpList_append_own _ rfl _ _ 64 rfl w.heap.size 5 i0 (.int .u8 0) 1 1 Tryz.underlying64 hi hz0 hz1 hz2 rfl (by decide) _ _ _ rfl (World.ownsRow.alloc HROW.out.2 _) ⟨wr.heap.size, 0, none⟩ 1 1 (Lib.byteCells [c]) rfl rfl (new_cells wr (Lib.byteCells [c]) _) (byteCells_one _) (by unfold maxLen; omega) (by omega) (by simp; omega) ?_; intro v' w1 hown' hgrow _; have HN : Hid (BR w w1 v' ((34 :: (L.take k).flatMap pieceL) ++ [c])) := br_step HROW.out hown' hgrow; clear hown' hgrow))
        go_roundw
        case rel => exact ⟨k + 1, by omega, by simp, by rw [HE.out, HPC.out]; exact HN.out⟩
        case measure => simp [intOf]; omega
      · rw [if_neg hp] at hpc
        have HPC : Hid (pieceL c = [92, 120, hexs.getD (c.toNat / 16) 0, hexs.getD (c.toNat % 16) 0]) := hpc
        have hpn : ¬ (32 ≤ (c.toNat : Int) ∧ (c.toNat : Int) ≤ 126) := fun h => hp (by unfold plainZ; simp; omega)
        clear hpc hp
        obtain ⟨a, hal⟩ : ∃ a : Nat, a = c.toNat / 16 := ⟨_, rfl⟩
        obtain ⟨b, hbl⟩ : ∃ b : Nat, b = c.toNat % 16 := ⟨_, rfl⟩
        have k1 : a < (⟨#[48, 49, 50, 51, 52, 53, 54, 55, 56, 57, 97, 98, 99, 100, 101, 102]⟩ : ByteArray).size := by show a < 16; omega
        have k2 : b < (⟨#[48, 49, 50, 51, 52, 53, 54, 55, 56, 57, 97, 98, 99, 100, 101, 102]⟩ : ByteArray).size := by show b < 16; omega
        have ka : (a : Int) < 16 := by omega
        have kb : (b : Int) < 16 := by omega
        have wa : IntKind.u8.wrap ((c.toNat : Int) / 16) = (a : Int) := by rw [IntWalk.u8_in] <;> omega
        have wb : (c.toNat : Int).tmod 16 = (b : Int) := by rw [Int.tmod_eq_emod_of_nonneg (by omega)]; omega
        rw [← hal, ← hbl, ← hexIx a k1, ← hexIx b k2] at HPC
        clear hal hbl
        by_cases h32 : 32 ≤ (c.toNat : Int)
        · have h126 : ¬ (c.toNat : Int) ≤ 126 := fun h => hpn ⟨h32, h⟩
          go_upto_region 7 with fail
          go_region_law (refine step_append_own rfl (.tmp 18) (.tmp 25) 64 rfl w.heap.size 5 i0 (.int .u8 0) 1 1 Tryz.underlying64 hi hz0 hz1 hz2 rfl (by decide) u3 (34 :: (L.take k).flatMap pieceL).length (Lib.byteCells (34 :: (L.take k).flatMap pieceL)) (by simp [Act.eval]) (by first | exact (World.ownsRow.alloc HROW.out.2 _) | exact HROW.out.2) ⟨wr.heap.size, 0, none⟩ 4 4 (Lib.byteCells [92, 120, (⟨#[48, 49, 50, 51, 52, 53, 54, 55, 56, 57, 97, 98, 99, 100, 101, 102]⟩ : ByteArray)[a], (⟨#[48, 49, 50, 51, 52, 53, 54, 55, 56, 57, 97, 98, 99, 100, 101, 102]⟩ : ByteArray)[b]]) (by simp [Act.eval]) rfl (by exact new_cells wr (Lib.byteCells [92, 120, (⟨#[48, 49, 50, 51, 52, 53, 54, 55, 56, 57, 97, 98, 99, 100, 101, 102]⟩ : ByteArray)[a], (⟨#[48, 49, 50, 51, 52, 53, 54, 55, 56, 57, 97, 98, 99, 100, 101, 102]⟩ : ByteArray)[b]]) _) (byteCells_one _) (by unfold maxLen; omega) (by omega) (by simp; omega) ?_; intro v' w1 hown' hgrow _ _; have HN : Hid (BR w w1 v' ((34 :: (L.take k).flatMap pieceL) ++ [92, 120, (⟨#[48, 49, 50, 51, 52, 53, 54, 55, 56, 57, 97, 98, 99, 100, 101, 102]⟩ : ByteArray)[a], (⟨#[48, 49, 50, 51, 52, 53, 54, 55, 56, 57, 97, 98, 99, 100, 101, 102]⟩ : ByteArray)[b]])) := (by first | exact br_step HROW.out hown' hgrow | exact br_step HROW.out.draw hown' hgrow); clear hown' hgrow)
          all_goals
            go_wp2_with fail
            go_roundw
            case rel => exact ⟨k + 1, by omega, by simp, by rw [HE.out, HPC.out]; exact HN.out⟩
            case measure => simp [intOf]; omega
        · clear hpn
          go_upto_region 7 with fail
          go_region_law (refine step_append_own rfl (.tmp 18) (.tmp 25) 64 rfl w.heap.size 5 i0 (.int .u8 0) 1 1 Tryz.underlying64 hi hz0 hz1 hz2 rfl (by decide) u3 (34 :: (L.take k).flatMap pieceL).length (Lib.byteCells (34 :: (L.take k).flatMap pieceL)) (by simp [Act.eval]) (by first | exact (World.ownsRow.alloc HROW.out.2 _) | exact HROW.out.2) ⟨wr.heap.size, 0, none⟩ 4 4 (Lib.byteCells [92, 120, (⟨#[48, 49, 50, 51, 52, 53, 54, 55, 56, 57, 97, 98, 99, 100, 101, 102]⟩ : ByteArray)[a], (⟨#[48, 49, 50, 51, 52, 53, 54, 55, 56, 57, 97, 98, 99, 100, 101, 102]⟩ : ByteArray)[b]]) (by simp [Act.eval]) rfl (by exact new_cells wr (Lib.byteCells [92, 120, (⟨#[48, 49, 50, 51, 52, 53, 54, 55, 56, 57, 97, 98, 99, 100, 101, 102]⟩ : ByteArray)[a], (⟨#[48, 49, 50, 51, 52, 53, 54, 55, 56, 57, 97, 98, 99, 100, 101, 102]⟩ : ByteArray)[b]]) _) (byteCells_one _) (by unfold maxLen; omega) (by omega) (by simp; omega) ?_; intro v' w1 hown' hgrow _ _; have HN : Hid (BR w w1 v' ((34 :: (L.take k).flatMap pieceL) ++ [92, 120, (⟨#[48, 49, 50, 51, 52, 53, 54, 55, 56, 57, 97, 98, 99, 100, 101, 102]⟩ : ByteArray)[a], (⟨#[48, 49, 50, 51, 52, 53, 54, 55, 56, 57, 97, 98, 99, 100, 101, 102]⟩ : ByteArray)[b]])) := (by first | exact br_step HROW.out hown' hgrow | exact br_step HROW.out.draw hown' hgrow); clear hown' hgrow)
          all_goals
            go_wp2_with fail
            go_roundw
            case rel => exact ⟨k + 1, by omega, by simp, by rw [HE.out, HPC.out]; exact HN.out⟩
            case measure => simp [intOf]; omega
    · obtain rfl : k = s.size := by omega
      have hE : 34 :: (L.take s.size).flatMap pieceL = 34 :: L.flatMap pieceL := by rw [← HN.out, List.take_length]
      have hRW := HROW.out
      rw [hE] at hRW hnl
      have HR2 : Hid (BR w wr u3 (34 :: L.flatMap pieceL)) := hRW
      rw [List.cons_append] at HQ
      have HQ2 : Hid ((34 :: L.flatMap pieceL) ++ [34] = q) := HQ.out
      clear hRW hE HROW HQ hpl
      generalize 34 :: L.flatMap pieceL = bs at *
      go_wp2_with (first
        | (at_builtin; refine wpList_append_own _ rfl _ _ 64 rfl w.heap.size 5 i0 (.int .u8 0) 1 1 Tryz.underlying64 hi hz0 hz1 hz2 rfl (by decide) _ _ _ rfl (World.ownsRow.alloc HR2.out.2 _) ⟨wr.heap.size, 0, none⟩ 1 1 (Lib.byteCells [34]) rfl rfl (new_cells wr (Lib.byteCells [34]) _) (byteCells_one _) (by unfold maxLen; omega) (by omega) (by simp; omega) ?_; intro v' w1 hown' hgrow _; obtain ⟨g', cap', rfl⟩ := ownsRow_succ hown'; have HN : Hid (BR w w1 (.slice (some ⟨g', 0, none⟩) (bs.length + 1) cap') (bs ++ [34])) := br_step HR2.out hown' hgrow; have hcv := br_string HN.out; rw [HQ2.out] at hcv; clear hown' hgrow))
      go_ret
      exact ⟨rfl, HN.out.1⟩
end Go.Proofs.YtiobhadchakoiaaGreatDoor
