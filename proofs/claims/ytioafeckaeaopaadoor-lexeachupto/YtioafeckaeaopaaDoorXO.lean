/- unquote. Written by tools/xn.py. -/
import Derived.Test.YtioafeckaeaopaaDoorXNb
import Derived.Test.YtioafeckaeaopaaDoorXNc
import Derived.Test.YtioafeckaeaopaaDoorXNd
import Derived.Deep.Cut
namespace Go.Proofs.YtioafeckaeaopaaDoor
open Go.RowKit Go.Maps

theorem fresh_bld (w : World) : Bld w.heap.size w.heap.size (w.alloc (.cells #[.pointer none, .slice none 0 0] 58)) [] := Lib.fresh_isBuilder 58 5 w
set_option maxRecDepth 100000 in
set_option maxHeartbeats 8000000 in
theorem unquote_any (s : ByteArray) (w : World) (hs : s.size ≤ 140737488355328) (h1 : 1 ≤ s.size) :
    Calls Tryd.prog 73 #[.string s] w fun e w' => e = .returned (.tuple #[.string ⟨(unquoteT s.data.toList).1.toArray⟩, .int .i64 ((unquoteT s.data.toList).2.1 : Int), .bool (unquoteT s.data.toList).2.2]) ∧ Stay w w' := by
  obtain ⟨L, hL⟩ : ∃ L, s.data.toList = L := ⟨_, rfl⟩
  have HL : Hid (s.data.toList = L) := hL
  have hlen : L.length = s.size := by rw [← hL]; simp
  rw [hL]
  obtain ⟨T, hT⟩ : ∃ T, unquoteT L = T := ⟨_, rfl⟩
  have HT : Hid (unquoteT L = T) := hT
  rw [hT]
  have HLen : Hid (L.length = s.size) := hlen
  have hru : ∀ (i : Nat) (W : World), i ≤ s.size → Calls Tryd.prog 60 #[.string s, .int .i64 (i : Int)] W fun e w' => e = .returned (.int .i32 (runeZ L (i : Int))) ∧ w' = W := fun i W hi => by
    have := runeAt_any s (i : Int) W (by omega) (by omega)
    rwa [hL] at this
  clear hL hT hlen
  have hf : ∀ c, Tryd.f73.body.map scopeOf = some c → ∀ l a W, uqJ w s l a W → ∃ rest, findLabel c l = some (Code.seq .skip rest) ∧ rest.wp Tryd.prog (jumps (fun l' a' w' => uqJ w s l' a' w' ∧ uqM s l' a' w' < uqM s l a W) (bodyPost Tryd.prog Tryd.f73 fun e w' => e = .returned (.tuple #[.string ⟨T.1.toArray⟩, .int .i64 (T.2.1 : Int), .bool T.2.2]) ∧ Stay w w')) a W := by
    rintro c hc l a W ⟨k, bs, ⟨hB, hS, hk, hl, hu⟩, u1, u2, u3, u4, u6, u7, u9, u10, u11, u12, u13, u14, u15, u16, u17, u18, u19, u20, u21, u22, u23, u24, u25, u26, u27, u28, u29, u30, u31, u32, u33, u34, u35, u36, u37, u38, u39, u40, u41, u42, u43, u44, u45, u46, u47, u48, u49, u50, u51, u52, u53, u54, u55, u56, u57, u58, u59, u60, u61, u62, u63, u64, u65, u66, u67, u68, u69, u70, u71, u72, u73, u74, u75, u76, u77, u78, u79, u80, rfl⟩
    rw [HL.out] at hu
    rcases hu with ⟨rfl, hu⟩ | ⟨rfl, hl2, hu⟩ | ⟨rfl, hl2, hu⟩ | ⟨rfl, hu⟩
    · exact uq_2 HL HT HLen hs hru hB hS hk hl hu hc
    · exact uq_1 HL HT HLen hs hru hB hS hk hl hl2 hu hc
    · exact uq_3 HL HT HLen hs hru hB hS hk hl hl2 hu hc
    · have HU : Hid (T = no k) := HT.out.symm.trans hu
      have HS : Hid (Stay w W) := hS
      simp only [Tryd.f73, Option.map_some, scopeOf, Option.some.injEq] at hc
      subst hc
      refine ⟨_, rfl, ?_⟩
      clear hu hB hS hru
      go_wp2
      simp only [jumps]
      go_ret3
      exact ⟨by rw [HU.out]; rfl, HS.out⟩
  go_enter Tryd.func73, Tryd.ntmps73
  go_wp2
  refine wp_scope_labels (uqJ w s) (uqM s) (fun l a W hJ => hf _ rfl l a W hJ) ?_
  intro key
  clear hf
  clear hru
  go_wp2_with fail
  go_step3
  (try simp only [Exit.then])
  obtain ⟨rest, h2, h3⟩ := key 2 _ _ ⟨1, [], ⟨fresh_bld w, Stay.new _ _, h1, by simp, by rw [HL.out]; exact .inl ⟨rfl, rfl⟩⟩, _, _, _, _, _, _, _, _, _, _, _, _, _, _, _, _, _, _, _, _, _, _, _, _, _, _, _, _, _, _, _, _, _, _, _, _, _, _, _, _, _, _, _, _, _, _, _, _, _, _, _, _, _, _, _, _, _, _, _, _, _, _, _, _, _, _, _, _, _, _, _, _, _, _, _, _, _, _, rfl⟩
  cases h2
  exact (by assumption : ∀ _ _, _ → _) _ _ h3
end Go.Proofs.YtioafeckaeaopaaDoor
