/- walk: behind a plain byte. Written by tools/fw.py. -/
import Derived.Test.YtbbgembkdhcidaaFW0
namespace Go.Proofs.Ytbbgembkdhcidaa
open Go.RowKit Go.Maps
section
variable {gf : Nat} {lb : Array Value} {s : ByteArray} {rb cap : Nat} {J : List (List UInt8) → World → Prop} {L : List UInt8} {T : LR} {W : World} {k n : Nat} {c : List UInt8} {cs : List (List UInt8)} {bd : Code}

set_option maxRecDepth 100000 in
set_option maxHeartbeats 8000000 in
theorem fw_0 (eg : ∀ args w, (callFunc gf args).run Try.prog w = .ok (.enter gf args) w) (HL : Hid (s.data.toList = L)) (HT : Hid (splitT L = T)) (HLen : Hid (L.length = s.size)) (hs : s.size ≤ 140737488355328) (hcap : min s.size 1024 ≤ cap)
    (hJ : ∀ cs A A', J cs A → Turn (fun k => k = rb) A A' → J cs A')
    (hT : ∀ cs c A, cs.length ≤ s.size → J cs A → Rm A rb cap c → Calls Try.prog gf (#[.slice (some ⟨rb, 0, none⟩) c.length cap] ++ lb) A fun e A' => e = .returned (.tuple #[]) ∧ J (cs ++ [c]) A' ∧ Rm A' rb cap c)
    (hn : n = c.length) (hj : J cs W) (hR : Rm W rb cap c) (hk : k ≤ s.size) (hl : n ≤ 1024) (hnk : n ≤ k) (hck : cs.length ≤ k) (hu : splitT L = lfin cs k (walkP c (L.drop k))) {u3 u4 u5 u6 u9 u10 u11 u12 u13 u14 u15 u16 u17 u18 u19 u20 u21 u22 u23 u24 u25 u26 u27 u28 u29 u30 u31 u32 u33 u34 u35 u36 u37 u38 u39 u40 u41 u42 u43 u44 u45 u46 u47 u48 u49 u50 u51 u52 u53 u54 u55 u56 u57 u58 u59 u60 u61 u62 u63 u64 u65 u66 u67 u68 u69 u70 u71 u72 u73 : Value} (hc : Try.f58.body.map scopeOf = some bd) :
    ∃ rest, findLabel bd 0 = some (Code.seq .skip rest) ∧ rest.wp Try.prog (jumps (fun l' a' w' => fwJ s rb cap gf lb J l' a' w' ∧ fwM s l' a' w' < fwM s 0 { tmps := #[.string s, .slice (some ⟨rb, 0, none⟩) 0 cap, .func (.func gf) #[] lb, u3, u4, u5, u6, .slice (some ⟨rb, 0, none⟩) n cap, .int .i64 (k : Int), u9, u10, u11, u12, u13, u14, u15, u16, u17, u18, u19, u20, u21, u22, u23, u24, u25, u26, u27, u28, u29, u30, u31, u32, u33, u34, u35, u36, u37, u38, u39, u40, u41, u42, u43, u44, u45, u46, u47, u48, u49, u50, u51, u52, u53, u54, u55, u56, u57, u58, u59, u60, u61, u62, u63, u64, u65, u66, u67, u68, u69, u70, u71, u72, u73], defers := [] } W) (bodyPost Try.prog Try.f58 fun e w' => e = .returned (.int .i64 (plcZ T.2)) ∧ J T.1 w' ∧ Rm w' rb cap [])) { tmps := #[.string s, .slice (some ⟨rb, 0, none⟩) 0 cap, .func (.func gf) #[] lb, u3, u4, u5, u6, .slice (some ⟨rb, 0, none⟩) n cap, .int .i64 (k : Int), u9, u10, u11, u12, u13, u14, u15, u16, u17, u18, u19, u20, u21, u22, u23, u24, u25, u26, u27, u28, u29, u30, u31, u32, u33, u34, u35, u36, u37, u38, u39, u40, u41, u42, u43, u44, u45, u46, u47, u48, u49, u50, u51, u52, u53, u54, u55, u56, u57, u58, u59, u60, u61, u62, u63, u64, u65, u66, u67, u68, u69, u70, u71, u72, u73], defers := [] } W := by
  simp only [Try.f58, Option.map_some, scopeOf, Option.some.injEq] at hc
  subst hc
  refine ⟨_, rfl, ?_⟩
  have HX : Hid (J cs W ∧ Rm W rb cap c ∧ n = c.length) := ⟨hj, hR, hn⟩
  by_cases hkl : k < s.size
  · have hkL : k < L.length := by rw [HLen.out]; exact hkl
    have hki : ((k : Int) == (s.size : Int)) = false := by simp; omega
    have hki2 : (k : Int) < (s.size : Int) := by omega
    rw [walkP_at _ L k hkL] at hu
    have hLs : L[k] = s[k] := by
      have e0 : s.data.toList[k]'(by rw [HL.out]; exact hkL) = s[k] := rfl
      rw [← e0]
      congr 1
      exact HL.out.symm
    rw [hLs] at hu
    obtain ⟨b, hb⟩ : ∃ b, s[k] = b := ⟨_, rfl⟩
    rw [hb] at hu
    have hct : s[k].toNat = b.toNat := by rw [hb]
    have hb2 : b.toNat < 256 := UInt8.toNat_lt b
    clear hb hLs hkL
    by_cases h9 : b = 9
    · subst h9
      rw [if_pos rfl, lfin_put] at hu
      have HU : Hid (splitT L = lfin (cs ++ [c]) (k + 1) (walkP [] (L.drop (k + 1)))) := hu
      have htk := hT cs c W (by omega) hj hR
      have hcut := room_cut rb cap
      rw [← hn] at htk
      rw [show UInt8.toNat 9 = 9 from rfl] at hct
      clear hu hT hJ hj hR hn
      go_wp2_with (first
        | (go_at_fn gf; refine htk.mono ?_; rintro e W1 ⟨rfl, hj1, hR1⟩))
      go_step3
      exact ⟨⟨k + 1, 0, [], cs ++ [c], ⟨rfl, hj1, hR1.reset, by omega, by omega, by omega, by first | omega | (rw [List.length_append, List.length_singleton]; omega), by rw [HL.out]; exact .inl ⟨rfl, HU.out⟩⟩, _, _, _, _, _, _, _, _, _, _, _, _, _, _, _, _, _, _, _, _, _, _, _, _, _, _, _, _, _, _, _, _, _, _, _, _, _, _, _, _, _, _, _, _, _, _, _, _, _, _, _, _, _, _, _, _, _, _, _, _, _, _, _, _, _, _, _, _, _, rfl⟩, by simp [fwM, intOf]; try omega⟩
    rw [if_neg h9] at hu
    have q9 := byte_ne h9
    rw [show ((UInt8.toNat 9 : Nat) : Int) = 9 from rfl] at q9
    by_cases h10 : b = 10
    · subst h10
      rw [if_pos (.inl rfl), lfin_no] at hu
      have HU : Hid (splitT L = (cs, some k)) := hu
      rw [show UInt8.toNat 10 = 10 from rfl] at hct
      clear hu hT hJ hj hR hn h9 q9
      go_wp2_with fail
      go_step3
      exact ⟨⟨k, n, c, cs, ⟨HX.out.2.2, HX.out.1, HX.out.2.1, by omega, by omega, by omega, by first | omega | (rw [List.length_append, List.length_singleton]; omega), by rw [HL.out]; exact .inr (.inr ⟨rfl, HU.out⟩)⟩, _, _, _, _, _, _, _, _, _, _, _, _, _, _, _, _, _, _, _, _, _, _, _, _, _, _, _, _, _, _, _, _, _, _, _, _, _, _, _, _, _, _, _, _, _, _, _, _, _, _, _, _, _, _, _, _, _, _, _, _, _, _, _, _, _, _, _, _, _, rfl⟩, by simp [fwM, intOf]; try omega⟩
    have q10 := byte_ne h10
    rw [show ((UInt8.toNat 10 : Nat) : Int) = 10 from rfl] at q10
    by_cases hfull : n = 1024
    · rw [if_pos (.inr (hn ▸ hfull)), lfin_no] at hu
      have HU : Hid (splitT L = (cs, some k)) := hu
      have hnb : ((n : Int) == 1024) = true := by simp; omega
      clear hu hT hJ hj hR hn hfull
      go_wp2_with fail
      go_step3
      exact ⟨⟨k, n, c, cs, ⟨HX.out.2.2, HX.out.1, HX.out.2.1, by omega, by omega, by omega, by first | omega | (rw [List.length_append, List.length_singleton]; omega), by rw [HL.out]; exact .inr (.inr ⟨rfl, HU.out⟩)⟩, _, _, _, _, _, _, _, _, _, _, _, _, _, _, _, _, _, _, _, _, _, _, _, _, _, _, _, _, _, _, _, _, _, _, _, _, _, _, _, _, _, _, _, _, _, _, _, _, _, _, _, _, _, _, _, _, _, _, _, _, _, _, _, _, _, _, _, _, _, rfl⟩, by simp [fwM, intOf]; try omega⟩
    rw [if_neg (by intro h; rcases h with h | h; exact h10 h; exact hfull (hn.trans h))] at hu
    have hnb : ((n : Int) == 1024) = false := by simp; omega
    have hn1 : n < 1024 := by omega
    by_cases h92 : b = 92
    · subst h92
      rw [if_pos rfl, lfin_skip] at hu
      have HU : Hid (splitT L = lfin cs (k + 1) (walkE c (L.drop (k + 1)))) := hu
      have hcl : c.length < 1024 := by omega
      rw [show UInt8.toNat 92 = 92 from rfl] at hct
      clear hu hT hJ hj hR hn h9 q9 h10 q10 hfull
      go_wp2_with fail
      go_step3
      exact ⟨⟨k + 1, n, c, cs, ⟨HX.out.2.2, HX.out.1, HX.out.2.1, by omega, by omega, by omega, by first | omega | (rw [List.length_append, List.length_singleton]; omega), by rw [HL.out]; exact .inr (.inl ⟨rfl, hcl, HU.out⟩)⟩, _, _, _, _, _, _, _, _, _, _, _, _, _, _, _, _, _, _, _, _, _, _, _, _, _, _, _, _, _, _, _, _, _, _, _, _, _, _, _, _, _, _, _, _, _, _, _, _, _, _, _, _, _, _, _, _, _, _, _, _, _, _, _, _, _, _, _, _, _, rfl⟩, by simp [fwM, intOf]; try omega⟩
    rw [if_neg h92, lfin_skip] at hu
    have q92 := byte_ne h92
    rw [show ((UInt8.toNat 92 : Nat) : Int) = 92 from rfl] at q92
    have HU : Hid (splitT L = lfin cs (k + 1) (walkP (c ++ [b]) (L.drop (k + 1)))) := hu
    obtain ⟨V, hap, hRV, hTV⟩ := hR.put (by omega) b 42 _ rfl
    rw [← hn] at hap
    have HY : Hid (J cs V ∧ Rm V rb cap (c ++ [b]) ∧ n + 1 = (c ++ [b]).length) := ⟨hJ cs W V hj hTV, hRV, by rw [List.length_append, List.length_singleton, ← hn]⟩
    clear hu hT hJ hj hR hn h9 h10 h92 hfull hRV hTV
    go_wp2_with (at_builtin; refine wpList_append_run rfl _ _ 42 42 rfl _ _ rfl rfl hap ?_)
    go_step3
    exact ⟨⟨k + 1, n + 1, c ++ [b], cs, ⟨HY.out.2.2, HY.out.1, HY.out.2.1, by omega, by omega, by omega, by first | omega | (rw [List.length_append, List.length_singleton]; omega), by rw [HL.out]; exact .inl ⟨rfl, HU.out⟩⟩, _, _, _, _, _, _, _, _, _, _, _, _, _, _, _, _, _, _, _, _, _, _, _, _, _, _, _, _, _, _, _, _, _, _, _, _, _, _, _, _, _, _, _, _, _, _, _, _, _, _, _, _, _, _, _, _, _, _, _, _, _, _, _, _, _, _, _, _, _, rfl⟩, by simp [fwM, intOf]; try omega⟩
  · have hki : ((k : Int) == (s.size : Int)) = true := by simp; omega
    rw [walkP_end _ L k (by rw [HLen.out]; omega), lfin_end] at hu
    have HU : Hid (T = (cs ++ [c], none)) := HT.out.symm.trans hu
    have htk := hT cs c W (by omega) hj hR
    rw [← hn] at htk
    clear hu hT hJ hj hR hn
    go_wp2_with (first
      | (go_at_fn gf; refine htk.mono ?_; rintro e W1 ⟨rfl, hj1, hR1⟩))
    simp only [jumps]
    go_ret
    exact ⟨by rw [HU.out]; rfl, by rw [HU.out]; exact hj1, hR1.reset⟩
end
end Go.Proofs.Ytbbgembkdhcidaa
