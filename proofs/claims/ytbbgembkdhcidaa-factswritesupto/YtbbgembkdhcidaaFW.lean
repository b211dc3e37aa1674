/- walk: the whole. Written by tools/fw.py. -/
import Derived.Test.YtbbgembkdhcidaaFWa
import Derived.Test.YtbbgembkdhcidaaFWb
namespace Go.Proofs.Ytbbgembkdhcidaa
open Go.RowKit Go.Maps
section
variable {gf : Nat} {lb : Array Value} {s : ByteArray} {rb cap : Nat} {J : List (List UInt8) → World → Prop} {L : List UInt8} {T : LR} {W : World} {k n : Nat} {c : List UInt8} {cs : List (List UInt8)} {bd : Code}

set_option maxRecDepth 100000 in
set_option maxHeartbeats 8000000 in
theorem walk_any (eg : ∀ args w, (callFunc gf args).run Try.prog w = .ok (.enter gf args) w) (s : ByteArray) (w : World) (hs : s.size ≤ 140737488355328) (hcap : min s.size 1024 ≤ cap)
    (hJ : ∀ cs A A', J cs A → Turn (fun k => k = rb) A A' → J cs A')
    (hT : ∀ cs c A, cs.length ≤ s.size → J cs A → Rm A rb cap c → Calls Try.prog gf (#[.slice (some ⟨rb, 0, none⟩) c.length cap] ++ lb) A fun e A' => e = .returned (.tuple #[]) ∧ J (cs ++ [c]) A' ∧ Rm A' rb cap c)
    (h0 : J [] w) (hR : Rm w rb cap []) :
    Calls Try.prog 58 #[.string s, .slice (some ⟨rb, 0, none⟩) 0 cap, .func (.func gf) #[] lb] w fun e w' => e = .returned (.int .i64 (plcZ (splitT s.data.toList).2)) ∧ J (splitT s.data.toList).1 w' ∧ Rm w' rb cap [] := by
  obtain ⟨L, hL⟩ : ∃ L, s.data.toList = L := ⟨_, rfl⟩
  have HL : Hid (s.data.toList = L) := hL
  have hlen : L.length = s.size := by rw [← hL]; simp
  rw [hL]
  obtain ⟨T, hTT⟩ : ∃ T, splitT L = T := ⟨_, rfl⟩
  have HT : Hid (splitT L = T) := hTT
  rw [hTT]
  have HLen : Hid (L.length = s.size) := hlen
  clear hL hTT hlen
  have hf : ∀ bd, Try.f58.body.map scopeOf = some bd → ∀ l a W, fwJ s rb cap gf lb J l a W → ∃ rest, findLabel bd l = some (Code.seq .skip rest) ∧ rest.wp Try.prog (jumps (fun l' a' w' => fwJ s rb cap gf lb J l' a' w' ∧ fwM s l' a' w' < fwM s l a W) (bodyPost Try.prog Try.f58 fun e w' => e = .returned (.int .i64 (plcZ T.2)) ∧ J T.1 w' ∧ Rm w' rb cap [])) a W := by
    rintro bd hc l a W ⟨k, n, c, cs, ⟨hn, hj, hR, hk, hl, hnk, hck, hu⟩, u3, u4, u5, u6, u9, u10, u11, u12, u13, u14, u15, u16, u17, u18, u19, u20, u21, u22, u23, u24, u25, u26, u27, u28, u29, u30, u31, u32, u33, u34, u35, u36, u37, u38, u39, u40, u41, u42, u43, u44, u45, u46, u47, u48, u49, u50, u51, u52, u53, u54, u55, u56, u57, u58, u59, u60, u61, u62, u63, u64, u65, u66, u67, u68, u69, u70, u71, u72, u73, rfl⟩
    rw [HL.out] at hu
    rcases hu with ⟨rfl, hu⟩ | ⟨rfl, hl2, hu⟩ | ⟨rfl, hu⟩
    · exact fw_0 eg HL HT HLen hs hcap hJ hT hn hj hR hk hl hnk hck hu hc
    · exact fw_2 eg HL HT HLen hs hcap hJ hT hn hj hR hk hl hnk hck hl2 hu hc
    · have HU : Hid (T = (cs, some k)) := HT.out.symm.trans hu
      have HX : Hid (J cs W ∧ Rm W rb cap c) := ⟨hj, hR⟩
      simp only [Try.f58, Option.map_some, scopeOf, Option.some.injEq] at hc
      subst hc
      refine ⟨_, rfl, ?_⟩
      clear hu hT hJ hj hR
      go_wp2
      simp only [jumps]
      go_ret
      exact ⟨by rw [HU.out]; rfl, by rw [HU.out]; exact HX.out.1, HX.out.2.reset⟩
  have hcut := room_cut rb cap
  go_enter Try.func58, Try.ntmps58
  go_wp2
  refine wp_scope_labels (fwJ s rb cap gf lb J) (fwM s) (fun l a W hJ => hf _ rfl l a W hJ) ?_
  intro key
  clear hf
  clear hT hJ
  go_wp2_with fail
  go_step3
  (try simp only [Exit.then])
  obtain ⟨rest, h2, h3⟩ := key 0 _ _ ⟨0, 0, [], [], ⟨rfl, h0, hR, Nat.zero_le _, Nat.zero_le _, Nat.zero_le _, Nat.zero_le _, by rw [HL.out]; exact .inl ⟨rfl, by rw [lfin_nil]; rfl⟩⟩, _, _, _, _, _, _, _, _, _, _, _, _, _, _, _, _, _, _, _, _, _, _, _, _, _, _, _, _, _, _, _, _, _, _, _, _, _, _, _, _, _, _, _, _, _, _, _, _, _, _, _, _, _, _, _, _, _, _, _, _, _, _, _, _, _, _, _, _, _, rfl⟩
  cases h2
  exact (by assumption : ∀ _ _, _ → _) _ _ h3
end
end Go.Proofs.Ytbbgembkdhcidaa
