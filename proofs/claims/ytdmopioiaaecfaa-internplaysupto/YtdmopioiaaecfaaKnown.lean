/- known: the small table that the document names: it answers true, and nothing that lay there has turned. -/
import Derived.Test.YtdmopioiaaecfaaRanks
import Derived.Test.YtdmopioiaaecfaaSame
namespace Go.Proofs.Ytdmopioiaaecfaa
open Go.RowKit Go.Maps

theorem pair_uniq {α : Type} (R : α → α → Prop) (hirr : ∀ a, ¬ R a a) (htr : ∀ a b, R a b → R b a → False) : ∀ l l' : List α, l.Perm l' → l.Pairwise R → l'.Pairwise R → l = l'
  | [], l', hp, _, _ => (List.nil_perm.1 hp).symm
  | a :: l, [], hp, _, _ => by simp at hp
  | a :: l, b :: l', hp, h1, h2 => by
    have hab : a = b := by
      have ha : a ∈ b :: l' := hp.mem_iff.1 (by simp)
      have hb : b ∈ a :: l := hp.mem_iff.2 (by simp)
      rw [List.mem_cons] at ha hb
      rcases ha with e | ha
      · exact e
      · rcases hb with e | hb
        · exact e.symm
        · exact (htr a b ((List.pairwise_cons.1 h1).1 b hb) ((List.pairwise_cons.1 h2).1 a ha)).elim
    subst hab
    rw [pair_uniq R hirr htr l l' ((List.perm_cons a).1 hp) (List.pairwise_cons.1 h1).2 (List.pairwise_cons.1 h2).2]

theorem Rises.uniq {ts : List ByteArray} {zs ys : List Nat} (h : Rises ts zs) (k : Rises ts ys) : zs = ys :=
  pair_uniq _ (fun a e => by rw [cmpT_self] at e; omega) (fun a b e1 e2 => by have := cmpT_swap (ts[a]?.getD ⟨#[]⟩) (ts[b]?.getD ⟨#[]⟩); omega) zs ys (h.perm.trans k.perm.symm) h.rise k.rise

def kTexts : List ByteArray := [⟨#[98]⟩, ⟨#[97]⟩, ⟨#[]⟩, ⟨#[98]⟩]
theorem k_putAll : putAll [] kTexts = [⟨#[98]⟩, ⟨#[97]⟩, ⟨#[]⟩] := by kernel_rfl
theorem k_nums : nums [] kTexts = [0, 1, 2, 0] := by kernel_rfl
theorem k_found : found [⟨#[98]⟩, ⟨#[97]⟩, ⟨#[]⟩] ⟨#[97]⟩ = 1 := by kernel_rfl
theorem k_has : ([⟨#[98]⟩, ⟨#[97]⟩, ⟨#[]⟩] : List ByteArray).contains ⟨#[97]⟩ = true := by kernel_rfl
theorem k_not : ([⟨#[98]⟩, ⟨#[97]⟩, ⟨#[]⟩] : List ByteArray).contains ⟨#[99]⟩ = false := by kernel_rfl
theorem k_rises : Rises [⟨#[98]⟩, ⟨#[97]⟩, ⟨#[]⟩] [2, 1, 0] := ⟨by decide, by simp [cmpT, Lib.compareBytes]⟩
theorem k_rks : rks [2, 1, 0] = [2, 1, 0] := by decide

theorem k_strs (w : World) : StrsAt (w.alloc (.cells #[.string ⟨#[98]⟩, .string ⟨#[97]⟩, .string ⟨#[]⟩, .string ⟨#[98]⟩] 9)) (some ⟨w.heap.size, 0, none⟩) w.heap.size 0 kTexts := by
  refine ⟨fun _ => rfl, fun j hj => ?_⟩
  have h := heap_new w (.cells #[.string ⟨#[98]⟩, .string ⟨#[97]⟩, .string ⟨#[]⟩, .string ⟨#[98]⟩] 9)
  have hj4 : j < 4 := hj
  simp only [World.cell?, h]
  match j, hj4 with
  | 0, _ => rfl
  | 1, _ => rfl
  | 2, _ => rfl
  | 3, _ => rfl

theorem ints_new (w : World) (zs : List Int) : IntsS (w.alloc (.cells (zs.map (Value.int .i64)).toArray 3)) (some ⟨w.heap.size, 0, none⟩) w.heap.size 0 zs := by
  refine ⟨fun _ => rfl, fun j hj => ?_⟩
  have h := heap_new w (.cells (zs.map (Value.int .i64)).toArray 3)
  simp only [World.cell?, h]
  simp [hj]

theorem IntsS.kept {S : Nat → Prop} {w w' : World} {a : Option Addr} {b off : Nat} {zs : List Int} (h : IntsS w a b off zs) (ht : Turn S w w') (hn : ¬ S b) : IntsS w' a b off zs :=
  ⟨h.1, fun j hj => ht.cell (h.2 j hj) hn⟩

theorem sameNew (w : World) (b c : Nat) (zs : List Int) (h : IntsAt w b c zs) (hl : zs.length ≤ maxLen) :
    Calls Try.prog 42 #[.slice (some ⟨b, 0, none⟩) zs.length c, .slice (some ⟨w.heap.size, 0, none⟩) zs.length zs.length] (w.alloc (.cells (zs.map (Value.int .i64)).toArray 3)) fun e w' => e = .returned (.bool true) ∧ Turn (fun _ => False) w w' := by
  refine (sameInts_any _ _ _ b 0 w.heap.size 0 c zs.length zs zs (h.s.kept (Turn.alloc (fun _ => False) _ _) (fun e => e)) (ints_new w zs) hl hl).mono ?_
  rintro e w' ⟨rfl, n, rfl⟩
  exact ⟨by simp, (Turn.alloc _ _ _).trans (Turn.drewN (fun _ => False) _ _) (fun _ _ e => e)⟩

set_option maxRecDepth 100000 in
set_option maxHeartbeats 1000000 in
theorem known_any (w : World) : Calls Try.prog 17 #[] w fun e w' => e = .returned (.bool true) ∧ Below w.heap.size w w' := by
  go_enter Try.func17, Try.ntmps17
  go_wp2_with fail
  refine (new_any _).mono ?_
  rintro e w1 ⟨rfl, bm, g, cap, hT, h1, h2, h3, hB1⟩
  have HB1 : Hid (Below w.heap.size w w1) := hB1
  have HT : Hid (Tab w1 (w.heap.size + 2) bm g cap []) := hT
  clear hB1 hT
  have hput := putAll_yes (HT.out.kept (Turn.alloc (fun _ => False) w1 (.cells #[.string ⟨#[98]⟩, .string ⟨#[97]⟩, .string ⟨#[]⟩, .string ⟨#[98]⟩] 9)) (fun _ _ e => e)) kTexts (some ⟨w1.heap.size, 0, none⟩) w1.heap.size 0 4 (k_strs w1)
    (by have := HT.out.lt; rintro k (rfl | rfl | rfl) <;> omega) (by intro s hs; simp [kTexts] at hs; rcases hs with rfl | rfl | rfl | rfl <;> decide) (by simp [kTexts])
  rw [show kTexts.length = 4 from rfl, k_putAll, k_nums, World.size_alloc] at hput
  go_wp2_with fail
  refine hput.mono ?_
  rintro e w2 ⟨rfl, hI, g2, cap2, hT2, hg2, ht2⟩
  clear hput
  have hB2 : Below w.heap.size w w2 := by
    have hs1 := HB1.out.size
    refine (HB1.out.alloc hs1 _).trans (ht2.below (by simp; omega) ?_)
    rintro k (rfl | rfl | rfl) <;> omega
  have hs2 := hB2.size
  have hf1 := find_yes hT2 ⟨#[97]⟩ (by decide)
  rw [k_found, k_has] at hf1
  have hf2 := find_yes hT2 ⟨#[99]⟩ (by decide)
  rw [k_not] at hf2
  have hl2 := len_yes hT2
  have HI : Hid (IntsAt w2 (w1.heap.size + 1) 4 (([0, 1, 2, 0] : List Nat).map Int.ofNat) ∧ Below w.heap.size w w2 ∧ Tab w2 (w.heap.size + 2) bm g2 cap2 [⟨#[98]⟩, ⟨#[97]⟩, ⟨#[]⟩]) := ⟨hI, hB2, hT2⟩
  clear hI hB2 hT2 ht2 HB1 HT hg2 h1 h2 h3
  generalize found [⟨#[98]⟩, ⟨#[97]⟩, ⟨#[]⟩] ⟨#[99]⟩ = fc at hf2
  go_wp2_with fail
  refine hf1.mono ?_
  rintro e w9 ⟨rfl, hw⟩
  have hw' := hw.symm; subst hw'
  go_wp2_with fail
  refine hf2.mono ?_
  rintro e w9 ⟨rfl, hw⟩
  have hw' := hw.symm; subst hw'
  go_wp2_with fail
  refine (num_any _ _).mono ?_
  rintro e w9 ⟨rfl, hw⟩
  have hw' := hw.symm; subst hw'
  have hs1 : Calls Try.prog 42 #[.slice (some ⟨w1.heap.size + 1, 0, none⟩) 4 4, .slice (some ⟨w2.heap.size, 0, none⟩) 4 4] (w2.alloc (.cells #[.int .i64 0, .int .i64 1, .int .i64 2, .int .i64 0] 3)) fun e w' => e = .returned (.bool true) ∧ Turn (fun _ => False) w2 w' :=
    sameNew w2 (w1.heap.size + 1) 4 [0, 1, 2, 0] HI.out.1 (by decide)
  go_wp2_with fail
  refine hs1.mono ?_
  rintro e w3 ⟨rfl, ht3⟩
  have hT3 := HI.out.2.2.kept ht3 (fun _ _ e => e)
  have hl3 := len_yes hT3
  have hr3 := ranks_yes hT3 (by decide)
  have HB3 : Hid (Below w.heap.size w w3) := HI.out.2.1.trans (ht3.below HI.out.2.1.size (fun _ e => e.elim))
  clear hs1 hf1 hf2 hl2 ht3 hT3
  go_wp2_with fail
  refine hl3.mono ?_
  rintro e w9 ⟨rfl, hw⟩
  have hw' := hw.symm; subst hw'
  go_wp2_with fail
  refine hr3.mono ?_
  rintro e w4 ⟨b, zs, rfl, hb, hR, hI4, hB4⟩
  obtain rfl := hR.uniq k_rises
  have HB4 : Hid (Below w.heap.size w w4) := HB3.out.trans (hB4.mono HB3.out.size)
  have hs4 : Calls Try.prog 42 #[.slice (some ⟨b, 0, none⟩) 3 3, .slice (some ⟨w4.heap.size, 0, none⟩) 3 3] (w4.alloc (.cells #[.int .i64 2, .int .i64 1, .int .i64 0] 3)) fun e w' => e = .returned (.bool true) ∧ Turn (fun _ => False) w4 w' :=
    sameNew w4 b 3 [2, 1, 0] hI4 (by decide)
  clear hR hI4 hB4 hr3 hl3
  go_wp2_with fail
  refine hs4.mono ?_
  rintro e w5 ⟨rfl, ht5⟩
  clear hs4
  go_wp2
  go_ret
  exact ⟨rfl, HB4.out.trans (ht5.below HB4.out.size (fun _ e => e.elim))⟩
end Go.Proofs.Ytdmopioiaaecfaa
