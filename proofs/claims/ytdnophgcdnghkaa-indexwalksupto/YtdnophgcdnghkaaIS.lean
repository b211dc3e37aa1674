/- known: the small table that each statement asks. -/
import Derived.Test.YtdnophgcdnghkaaIRi
namespace Go.Proofs.Ytdnophgcdnghkaa.I
open Go.RowKit Go.Maps Go.Proofs.Ytdnophgcdnghkaa

theorem fns_new (w : World) (way : Int) (h : KeyOk way) : Fns ((w.alloc (.cells #[.int .i64 way] 3)).alloc (.cells #[.int .i64 way] 3)) (w.heap.size, w.heap.size + 1, way) := by
  have h1 := new_cells w [.int .i64 way] 3 0 _ rfl
  have h2 := new_cells (w.alloc (.cells #[.int .i64 way] 3)) [.int .i64 way] 3 0 _ rfl
  rw [add_at] at h1 h2
  refine ⟨(Stay.new _ _).cell h1, ?_, h⟩
  rw [World.size_alloc] at h2
  exact h2

theorem one_place {N reach : Nat} {e : E} {places : List Nat} (h : Lies N 1 reach [e] places) (hN : 0 < N) (ht : e.there = true) : e.place = e.hash % N := by
  have hh := h.here 0 e (by decide) rfl ht
  have hf := h.first 0 e (by decide) rfl ht
  by_cases hd : dist N (e.hash % N) e.place = 0
  · exact (dist_zero (Nat.mod_lt _ hN) hh.1 hd).symm
  · exfalso
    obtain ⟨t', h1, _⟩ := hf (e.hash % N) (Nat.mod_lt _ hN) (by rw [dist_self]; omega)
    omega

theorem hf9 (a b : Nat) : hf (a, b, 0) 9 = 9 := by
  have := hash_0 0 9 (by decide)
  unfold hf
  dsimp only
  omega

theorem one_ent {a b : Nat} {came' : List E} (h : Sim ([] ++ [ent 9 4 (hf (a, b, 0) 9) 0]) came') : ∃ e, came' = [e] ∧ e.key = 9 ∧ e.val = 4 ∧ e.hash = 9 ∧ e.there = true := by
  rw [hf9] at h
  have hlen : came'.length = 1 := h.len
  cases came' with
  | nil => simp at hlen
  | cons x r =>
    cases r with
    | cons y r => simp at hlen
    | nil =>
      have h1 : [strip x] = [strip (ent 9 4 9 0)] := h
      have he : strip x = strip (ent 9 4 9 0) := by simpa using h1
      exact ⟨x, rfl, congrArg Ent.key he, congrArg Ent.val he, congrArg Ent.hash he, congrArg Ent.there he⟩

theorem sm9 (a b : Nat) (k : Int) (h : k = 9) : sm (a, b, 0) k 9 = true := by rw [h]; exact sm_refl _ _

set_option maxRecDepth 100000 in
set_option maxHeartbeats 1000000 in
theorem known_any (w : World) : Calls Try.prog 17 #[] w fun e w' => e = .returned (.bool true) ∧ Stay w w' := by
  have k0 : KeyOk 0 := by unfold KeyOk; omega
  have k9 : KeyOk 9 := by unfold KeyOk; omega
  go_enter Try.func17, Try.ntmps17
  go_wp2_with fail
  refine (hashes_any _ _).mono ?_
  rintro e9 w9 ⟨rfl, rfl⟩
  go_wp2_with fail
  refine (sames_any _ _).mono ?_
  rintro e9 w9 ⟨rfl, rfl⟩
  have hn := new_any (fns_new w 0 k0)
  dsimp only at hn
  have hS0 : Stay w ((w.alloc (.cells #[.int .i64 0] 3)).alloc (.cells #[.int .i64 0] 3)) := (Stay.new w _).alloc _
  have hsz : ((w.alloc (.cells #[.int .i64 0] 3)).alloc (.cells #[.int .i64 0] 3)).heap.size = w.heap.size + 2 := by simp
  rw [World.size_alloc]
  generalize (w.alloc (.cells #[.int .i64 0] 3)).alloc (.cells #[.int .i64 0] 3) = w2 at hn hS0 hsz ⊢
  have HSZ : Hid (w2.heap.size = w.heap.size + 2) := hsz
  clear hsz
  go_wp2_with fail
  refine hn.mono ?_
  rintro e9 w3 ⟨rfl, hT, hS3⟩
  have hp := put_new hT 9 k9 4 (fun t e he => by simp at he) (by decide)
  have hfoot : ∀ k, k < w.heap.size → ¬ foot (w2.heap.size + 1) w2.heap.size (.slice none 0 0) k := by
    have hsz := HSZ.out
    rintro k hk (rfl | rfl | h0)
    · omega
    · omega
    · simp [Value.ownBlock] at h0
  have HS : Hid (Stay w w3 ∧ ∀ k, k < w.heap.size → ¬ foot (w2.heap.size + 1) w2.heap.size (.slice none 0 0) k) := ⟨hS0.trans hS3, hfoot⟩
  clear hn hT hS3 hS0 hfoot
  go_wp2_with fail
  refine hp.mono ?_
  rintro e9 w4 ⟨rfl, cv', pb', reach', came', places', hT4, hSim, hTu, _⟩
  rw [if_neg (by decide)] at hT4
  obtain ⟨e, rfl, hek, hev, heh, het⟩ := one_ent hSim
  have hpl := one_place hT4.lies (by decide) het
  rw [heh] at hpl
  have hp1 : e.place = 1 := hpl
  have hsm : sm (w.heap.size, w.heap.size + 1, 0) e.key 9 = true := sm9 _ _ _ hek
  have hg := get_yes hT4 9 k9 (t := 0) rfl het hsm
  rw [hev] at hg
  have hpc := fun n => place_yes (hT4.drew n) 9 k9 (t := 0) rfl het hsm
  rw [hp1] at hpc
  have hl := fun n => len_yes (hT4.drew n)
  have hz := fun n => size_yes (hT4.drew n)
  have HS4 : Hid (Stay w w4) := hTu.stay HS.out.1 HS.out.2
  clear hp hT4 hSim hTu hek hev heh het hpl hp1 hsm HS
  go_wp2_with fail
  refine hg.mono ?_
  rintro e9 w5 ⟨rfl, n, rfl⟩
  have hpc2 := hpc n
  clear hg hpc
  go_wp2_with fail
  refine hpc2.mono ?_
  rintro e9 w6 ⟨rfl, n2, hw6⟩
  rw [World.drewN_drewN] at hw6
  subst hw6
  have hl2 := hl (n + n2)
  have hz2 := hz (n + n2)
  clear hpc2 hl hz
  go_wp2_with fail
  refine hl2.mono ?_
  rintro e9 w9 ⟨rfl, hw⟩
  have hw' := hw.symm; subst hw'
  go_wp2_with fail
  refine hz2.mono ?_
  rintro e9 w9 ⟨rfl, hw⟩
  have hw' := hw.symm; subst hw'
  go_wp2
  go_ret
  exact ⟨rfl, HS4.out.trans (Stay.drewN _ _)⟩
end Go.Proofs.Ytdnophgcdnghkaa.I
