/- PrintProgram's walk. -/
import Derived.Test.YtiobhadchakoiaaGreatDoorDNb
import Derived.Test.YtiobhadchakoiaaGreatDoorDJ
import Derived.Test.YtiobhadchakoiaaGreatDoorDL
namespace Go.Proofs.YtiobhadchakoiaaGreatDoor
open Go.RowKit Go.Maps

theorem all_of {α : Type} {f : α → Bool} {xs ys : List α} {R : α → α → Prop} (hl : xs.length = ys.length) (h : ∀ j (h1 : j < xs.length) (h2 : j < ys.length), R xs[j] ys[j]) (hf : ∀ x y, R x y → f x = f y) : xs.map f = ys.map f := by
  refine List.ext_getElem (by simp [hl]) fun j h1 h2 => ?_
  rw [List.getElem_map, List.getElem_map]
  exact hf _ _ (h j (by simpa using h1) (by simpa using h2))
theorem map_of {α β : Type} {f : α → β} {xs ys : List α} {R : α → α → Prop} (hl : xs.length = ys.length) (h : ∀ j (h1 : j < xs.length) (h2 : j < ys.length), R xs[j] ys[j]) (hf : ∀ x y, R x y → f x = f y) : xs.map f = ys.map f := by
  refine List.ext_getElem (by simp [hl]) fun j h1 h2 => ?_
  rw [List.getElem_map, List.getElem_map]
  exact hf _ _ (h j (by simpa using h1) (by simpa using h2))
theorem all_map {α : Type} (f : α → Bool) (xs : List α) : xs.all f = (xs.map f).all id := by simp [List.all_map]
theorem At.like_ok' {x y : At} (h : x.like y) : x.ok = y.ok ∧ x.txt = y.txt := by
  unfold At.ok At.txt
  rw [h.1, h.2]
  exact ⟨rfl, rfl⟩
theorem Li.like_ok' {x y : Li} (h : x.like y) : x.ok = y.ok ∧ x.txt = y.txt := by
  obtain ⟨h1, h2, h3, h4⟩ := h
  have := At.like_ok' h2
  unfold Li.ok Li.txt
  rw [h1, h3, h4, this.1, this.2, h2.1, h2.2]
  exact ⟨rfl, rfl⟩
theorem Ru.like_ok' {x y : Ru} (h : x.like y) : x.ok = y.ok ∧ x.txt = y.txt := by
  have ha := At.like_ok' h.1
  have h1 : x.body.map Li.ok = y.body.map Li.ok := map_of h.2.1 h.2.2 (fun _ _ h => (Li.like_ok' h).1)
  have h2 : x.body.map Li.txt = y.body.map Li.txt := map_of h.2.1 h.2.2 (fun _ _ h => (Li.like_ok' h).2)
  unfold Ru.ok Ru.txt
  rw [ha.1, ha.2, h.2.1, h2, all_map, all_map Li.ok y.body, h1]
  exact ⟨rfl, rfl⟩
theorem Pr.like_ok {x y : Pr} (h : x.like y) : x.ok = y.ok ∧ x.txt = y.txt := by
  have h1 : x.rules.map Ru.ok = y.rules.map Ru.ok := map_of h.2.2.1 h.2.2.2 (fun _ _ h => (Ru.like_ok' h).1)
  have h2 : x.rules.map Ru.line = y.rules.map Ru.line := map_of h.2.2.1 h.2.2.2 (fun _ _ h => by unfold Ru.line; rw [(Ru.like_ok' h).2])
  unfold Pr.ok Pr.txt
  rw [h.1, h.2.1, h2, all_map Ru.ok x.rules, all_map Ru.ok y.rules, h1]
  exact ⟨rfl, rfl⟩

set_option maxRecDepth 100000 in
set_option maxHeartbeats 4000000 in
theorem printProgram_walk (x : Pr) (w : World) (hM : x.In w) (hf : x.fair) (hT : Tabs w) : Calls Tryz.prog 3 #[x.v] w fun e w' => e = .returned (.bool true) ∧ Stay w w' := by
  have hs0 : Stay w (w.alloc (.cells #[.slice x.ia x.ins.length x.ic, .slice x.oa x.outs.length x.oc, .slice x.ra x.rules.length x.rc] 26)) := Stay.new w _
  have hy := fun (V : World) (hV : Stay w V) => y9Program_any x V (Pr.stay hM hV) hf.2.2.2.2.1 hf.2.2.2.2.2.1 hf.2.2.2.2.2.2
  have hc := fun (V : World) (hV : Stay w V) => copyProgram_any x V (Pr.stay hM hV) hf
  have hp := fun (y : Pr) (hl : y.like x) (V : World) (hV : Stay w V) (hk : y.Kept V) => pProgram_any y V hk.in (hT.stay hV) (by rw [hl.1]; exact hf.2.2.2.2.1) (by rw [hl.2.1]; exact hf.2.2.2.2.2.1) (by rw [hl.2.2.1]; exact hf.2.2.2.2.2.2)
  have hkp := fun (y : Pr) (hl : y.like x) (V : World) (hV : Stay w V) (hk : y.Kept V) => keptProgram_yes V y x hl hk (Pr.stay hM hV) hf
  have hkn := fun (V : World) (hV : Stay w V) => known_any V (hT.stay hV)
  have HL : Hid (∀ y : Pr, y.like x → y.ok = x.ok ∧ y.txt = x.txt) := fun y h => Pr.like_ok h
  obtain ⟨w0, hw0⟩ : ∃ w0, w0 = w.alloc (.cells #[.slice x.ia x.ins.length x.ic, .slice x.oa x.outs.length x.oc, .slice x.ra x.rules.length x.rc] 26) := ⟨_, rfl⟩
  have HC : Hid (∀ W, Stay w0 W → W.cell? ⟨w.heap.size, 0, none⟩ = some (.slice x.ia x.ins.length x.ic) ∧ W.cell? ⟨w.heap.size, 1, none⟩ = some (.slice x.oa x.outs.length x.oc) ∧ W.cell? ⟨w.heap.size, 2, none⟩ = some (.slice x.ra x.rules.length x.rc)) := fun W hW => by
    subst hw0
    exact ⟨hW.cell (by simp), hW.cell (by simp), hW.cell (by simp)⟩
  rw [← hw0] at hs0
  have HS : Hid (Stay w w0) := hs0
  unfold tellT at *
  obtain ⟨tx, htx⟩ : ∃ tx : List UInt8, tx = if x.ok = true then x.txt else [] := ⟨_, rfl⟩
  obtain ⟨er, her⟩ : ∃ er : Int, er = if x.ok = true then 0 else 2 := ⟨_, rfl⟩
  have hp' : ∀ (y : Pr) (hl : y.like x) (V : World) (hV : Stay w V) (hk : y.Kept V), Calls Tryz.prog 6 #[y.v] V fun e w' => e = .returned (.tuple #[.string ⟨tx.toArray⟩, .int .i64 er]) ∧ Stay V w' := by
    intro y hl V hV hk
    have h := hp y hl V hV hk
    rw [(HL.out y hl).1, (HL.out y hl).2, ← htx, ← her] at h
    exact h
  rw [← htx, ← her] at hy
  clear hp htx her hM hf hT HL
  obtain ⟨ia, ib, io, ic, ins, oa, ob, oo, oc, outs, ra, rb, ro, rc, rules⟩ := x
  unfold Pr.v at *
  dsimp only at *
  have hee : (er == er) = true := by simp
  go_enter Tryz.func3, Tryz.ntmps3
  obtain ⟨d0, d1, d2⟩ := HC.out w0 (Stay.refl _)
  have hy0 := hy w0 hs0
  clear hy
  go_wp2_with fail
  rw [← hw0]
  refine hy0.mono ?_
  rintro e w1 ⟨rfl, s1⟩
  have t1 : Stay w w1 := hs0.trans s1
  have hc1 := hc w1 t1
  obtain ⟨e0, e1, e2⟩ := HC.out w1 s1
  clear hc hy0 d0 d1 d2 hw0 hs0 HS
  have S1 : Hid (Stay w0 w1 ∧ Stay w w1) := ⟨s1, t1⟩
  clear s1 t1
  go_wp2_with fail
  refine hc1.mono ?_
  rintro e w2 ⟨y, rfl, hl, hk, s2⟩
  have t2 : Stay w w2 := S1.out.2.trans s2
  have u2 : Stay w0 w2 := S1.out.1.trans s2
  obtain ⟨ia', ib', io', ic', ins', oa', ob', oo', oc', outs', ra', rb', ro', rc', rules'⟩ := y
  unfold Pr.v at *
  dsimp only at *
  obtain ⟨w3, hw3⟩ : ∃ w3, w3 = w2.alloc (.cells #[.slice ia' ins'.length ic', .slice oa' outs'.length oc', .slice ra' rules'.length rc'] 26) := ⟨_, rfl⟩
  have s3 : Stay w2 w3 := by rw [hw3]; exact Stay.new _ _
  have hp3 := hp' _ hl w3 (t2.trans s3) (Pr.Kept.stay hk s3)
  have HD : Hid (∀ W, Stay w3 W → W.cell? ⟨w2.heap.size, 0, none⟩ = some (.slice ia' ins'.length ic') ∧ W.cell? ⟨w2.heap.size, 1, none⟩ = some (.slice oa' outs'.length oc') ∧ W.cell? ⟨w2.heap.size, 2, none⟩ = some (.slice ra' rules'.length rc')) := fun W hW => by
    subst hw3
    exact ⟨hW.cell (by simp), hW.cell (by simp), hW.cell (by simp)⟩
  have hkp' := fun (V : World) (hV : Stay w3 V) => hkp _ hl V (t2.trans (s3.trans hV)) (Pr.Kept.stay hk (s3.trans hV))
  have S3 : Hid (Stay w0 w3 ∧ Stay w w3) := ⟨u2.trans s3, t2.trans s3⟩
  clear hp' hkp hc1 e0 e1 e2 S1 t2 u2 s2 s3 hk hl
  obtain ⟨f0, f1, f2⟩ := HD.out w3 (Stay.refl _)
  go_wp2_with fail
  rw [← hw3]
  refine hp3.mono ?_
  rintro e w4 ⟨rfl, s4⟩
  obtain ⟨g0, g1, g2⟩ := HD.out w4 s4
  obtain ⟨k0, k1, k2⟩ := HC.out w4 (S3.out.1.trans s4)
  have hkp4 := hkp' w4 s4
  have S4 : Hid (Stay w w4) := S3.out.2.trans s4
  have hxx : ((⟨tx.toArray⟩ : ByteArray).toList == (⟨tx.toArray⟩ : ByteArray).toList) = true := by simp
  clear hp3 hw3 f0 f1 f2 hkp' s4 HC HD S3
  go_wp2_with (first | (go_at_call 7; refine hkp4.mono ?_; rintro e w5 ⟨rfl, s5⟩; have hk5 := hkn w5 (S4.out.trans s5); have S5 : Hid (Stay w w5) := S4.out.trans s5; clear s5) | (go_at_call 8; refine hk5.mono ?_; rintro e w6 ⟨rfl, s6⟩))
  go_ret
  exact ⟨rfl, S5.out.trans s6⟩
end Go.Proofs.YtiobhadchakoiaaGreatDoor
