/- Is a literal ready, given these variables: Ready. -/
import Derived.Test.YtpnjmldbohecdaaEX
import Derived.Test.YtpnjmldbohecdaaEB
import Derived.Test.YtpnjmldbohecdaaEK
namespace Go.Proofs.Ytpnjmldbohecdaa
open Go.RowKit Go.Maps Go.Shelf

/-- How a region that ends well ends. -/
def normQ (Q : Exit → Act → World → Prop) : Exit → Act → World → Prop
  | .normal, a, w => Q .normal a w
  | _, _, _ => False
theorem region_wp {id : Nat} {P : Program} {os : List Oper} {Q : Exit → Act → World → Prop} {a : Act} {w : World} (hm : P.follows .mixedOrders = true) (h : wpAny P .any os.toArray (normQ Q) os.toArray.size (Array.replicate os.toArray.size false) a w.drew) : (Code.region id os.toArray true).wp P Q a w :=
  wpIn_wide.1 (wpIn_mono (n := 0) (wpIn_wide.2 (wp_region_any hm h)) fun e _ _ hq => by
    cases e with
    | normal => exact hq
    | _ => exact (show False from hq).elim)
def readyB (l : Li) (us : List ByteArray) : Bool := l.kind == 1 || ((l.kind == 2 || l.kind == 3) && allS us (varsT l.terms))

set_option maxRecDepth 100000 in
set_option maxHeartbeats 2000000 in
theorem ready_any (l : Li) (w : World) (hl : l.fit w) (a : Option Addr) (b off c : Nat) (us : List ByteArray) (h : RecS 1 encSt w a b off us) (hs : ∀ s ∈ us, s.size ≤ 1048576) (hn : us.length ≤ 4398046511104) :
    Calls Try.prog 15 #[l.v, .slice a us.length c] w fun e w' => e = .returned (.bool (readyB l us)) ∧ Stay w w' := by
  obtain ⟨w0, hw0⟩ : ∃ w0, w0 = w.alloc (.cells #[.int .i64 l.kind, .string l.atom.pred, .slice l.atom.a l.atom.ts.length l.atom.cap, .bool l.left.var, .string l.left.text, .bool l.right.var, .string l.right.text] 53) := ⟨_, rfl⟩
  have s0 : Stay w w0 := by rw [hw0]; exact Stay.new _ _
  have hnm := namesIn_any w0.drew a b off c us ((h.stay s0).stay (Stay.drew _)) hs hn
  have HC : Hid (∀ W, Stay w0 W → W.cell? ⟨w.heap.size, 0, none⟩ = some (.int .i64 l.kind) ∧ W.cell? ⟨w.heap.size, 1, none⟩ = some (.string l.atom.pred) ∧ W.cell? ⟨w.heap.size, 2, none⟩ = some (.slice l.atom.a l.atom.ts.length l.atom.cap) ∧ W.cell? ⟨w.heap.size, 3, none⟩ = some (.bool l.left.var) ∧ W.cell? ⟨w.heap.size, 4, none⟩ = some (.string l.left.text) ∧ W.cell? ⟨w.heap.size, 5, none⟩ = some (.bool l.right.var) ∧ W.cell? ⟨w.heap.size, 6, none⟩ = some (.string l.right.text)) := fun W hW => by
    have hB := (hW.block w.heap.size (by rw [hw0]; simp)).trans (show w0.heap[w.heap.size]? = some (.cells #[.int .i64 l.kind, .string l.atom.pred, .slice l.atom.a l.atom.ts.length l.atom.cap, .bool l.left.var, .string l.left.text, .bool l.right.var, .string l.right.text] 53 (0, 0)) by rw [hw0]; exact heap_new _ _)
    simp [World.cell?, hB]
  have hsh : ∀ s ∈ varsT l.terms, s.size ≤ 1048576 := fun s hs => by
    obtain ⟨t, ht, -, rfl⟩ := varsT_mem hs
    rcases terms_mem ht with h | rfl | rfl
    · exact hl.shorts.1 t h
    · exact hl.shorts.2.1
    · exact hl.shorts.2.2
  have htl := Li.terms_len l
  have hfw := hl.few
  have HH : Hid (∀ W, Stay w0 W → ∀ bm, SetM W bm us → Calls Try.prog 36 #[l.v] W fun e w2 => ∃ a' c', e = .returned (.slice a' l.terms.length c') ∧ Stay W w2 ∧ Calls Try.prog 34 #[.map (some bm), .func (.func 48) #[] #[.pointer (some ⟨w2.heap.size, 0, none⟩)]] (w2.alloc (.cells #[.slice a' l.terms.length c'] 22)) fun e w' => e = .returned (.bool (allS us (varsT l.terms))) ∧ Stay w2 w') := fun W hW bm hS => by
    refine (terms_any l W (TmsS.stay hl.ins (s0.trans hW))).mono ?_
    rintro e w2 ⟨a', b', off', c', rfl, hTm, hb', hst⟩
    refine ⟨a', c', rfl, hst, ?_⟩
    have sN : Stay w2 (w2.alloc (.cells #[.slice a' l.terms.length c'] 22)) := Stay.new _ _
    have hseq := vars_seq (fun _ => False) l.terms a' b' off' c' w2.heap.size (fun i => i < (w2.alloc (.cells #[.slice a' l.terms.length c'] 22)).heap.size) _ (hTm.stay sN) (new_cell _ _ _) (by omega) (fun h0 => Nat.lt_of_lt_of_le (tms_lt hTm h0) sN.size) (fun _ h => h)
    exact (have_any (varsT l.terms) 48 #[.pointer (some ⟨w2.heap.size, 0, none⟩)] (enters_of Try.func48 (by kernel_rfl) rfl) _ _ hseq (fun _ h => h) hsh bm us (hS.keep ((sN.block _ (by have := hS.lt; have := hst.size; omega)).trans (hst.block _ hS.lt)))).mono fun e w' h => ⟨h.1, sN.trans h.2⟩
  obtain ⟨R, hR⟩ : ∃ R : Ending → World → Prop, R = fun e w' => e = .returned (.bool (readyB l us)) ∧ Stay w w' := ⟨_, rfl⟩
  rw [← hR]
  have HR : Hid (R = fun e w' => e = .returned (.bool (readyB l us)) ∧ Stay w w') := hR
  obtain ⟨d0, d1, d2, d3, d4, d5, d6⟩ := HC.out w0 (Stay.refl _)
  rw [hw0] at d0 d1 d2 d3 d4 d5 d6
  have HS0 : Hid (Stay w w0) := s0
  clear h hs hsh htl hl s0 hR
  obtain ⟨rd, hrd⟩ : ∃ rd, rd = readyB l us := ⟨_, rfl⟩
  have HRD : Hid (rd = readyB l us) := hrd
  obtain ⟨al, hal⟩ : ∃ al, al = allS us (varsT l.terms) := ⟨_, rfl⟩
  have HAL : Hid (al = allS us (varsT l.terms)) := hal
  rw [← hal] at HH
  clear hrd hal
  obtain ⟨tl, htl⟩ : ∃ tl, tl = l.terms.length := ⟨_, rfl⟩
  rw [← htl] at HH
  clear htl
  have e1 : ∀ args w, (callFunc 33 args).run Try.prog w = .ok (.enter 33 args) w := enters_of Try.func33 (by kernel_rfl) rfl
  have e2 : ∀ args w, (callFunc 36 args).run Try.prog w = .ok (.enter 36 args) w := enters_of Try.func36 (by kernel_rfl) rfl
  have e3 : ∀ args w, (callFunc 35 args).run Try.prog w = .ok (.enter 35 args) w := enters_of Try.func35 (by kernel_rfl) rfl
  have e4 : ∀ args w, (callFunc 34 args).run Try.prog w = .ok (.enter 34 args) w := enters_of Try.func34 (by kernel_rfl) rfl
  obtain ⟨kind, ⟨pred, aa, ab, aoff, acap, ats⟩, ⟨lv, lt⟩, ⟨rv, rt⟩⟩ := l
  dsimp only [Li.v, At.sl] at *
  by_cases h1 : kind = 1
  · subst h1
    go_enter Try.func15, Try.ntmps15
    go_wp2
    show R _ _
    rw [HR.out]
    exact ⟨rfl, by rw [← hw0]; exact HS0.out⟩
  · by_cases h2 : kind = 2
    · subst h2
      have HAn : Hid (rd = al) := by show _ = _; rw [HRD.out, HAL.out]; simp [readyB]
      go_enter Try.func15, Try.ntmps15
      go_wp2
      rw [← hw0]
      obtain ⟨b0, b1, b2, b3, b4, b5, b6⟩ := HC.out w0.drew (Stay.drew w0)
      clear d0 d1 d2 d3 d4 d5 d6 hw0
      refine region_wp (by kernel_rfl) ?_
      refine wpAny_take (i := 0) (v := .slice a us.length c) rfl (by kernel_rfl) (by kernel_rfl) (by kernel_rfl) (fun _ _ _ h => h) (Or.inl ⟨by rfl, fun W => by first | (go_simp; done) | (go_simp; with_reducible rfl)⟩) ?_
      refine wpAny_ready (rs := [1, 2]) (by kernel_rfl) (by simp) (AllReady.cons (o := { dst := some 13, op := Op.call { callee := Callee.value (Operand.func 33), args := #[Operand.tmp 12], argTypes := #[28] }, type := 78, pos := "safe.go:51", after := #[{ on := 0, ground := Ground.data }], guard := none }) rfl (fun K hK => ?_) (AllReady.cons (o := { dst := some 14, op := Op.load 53 (Operand.tmp 2), type := 53, pos := "safe.go:51", after := #[], guard := none }) rfl (fun K hK => ?_) AllReady.nil))
      · refine step_goG (by rfl) 33 _ _ rfl (args := #[.slice a us.length c]) (by first | rfl | (simp [Act.eval]; done) | simp [Act.eval, Act.put]) e1 ?_
        refine hnm.mono ?_
        rintro e w1 ⟨bm, rfl, hS1, -, t1⟩
        have S1 : Hid (Stay w0 w1) := (Stay.drew w0).trans t1
        obtain ⟨c0, c1, c2, c3, c4, c5, c6⟩ := HC.out w1 S1.out
        have hh1 := HH.out w1 S1.out bm hS1
        refine ⟨_, rfl, ?_⟩
        (try go_simp)
        refine hK _ _ ?_
        clear hK K
        refine wpAny_ready (rs := [2]) (by kernel_rfl) (by simp) (AllReady.cons (o := { dst := some 14, op := Op.load 53 (Operand.tmp 2), type := 53, pos := "safe.go:51", after := #[], guard := none }) rfl (fun K hK => ?_) AllReady.nil)
        · go_simp
          refine hK _ _ ?_
          clear hK K
          refine wpAny_ready (rs := [3]) (by kernel_rfl) (by simp) (AllReady.cons (o := { dst := some 15, op := Op.call { callee := Callee.value (Operand.func 36), args := #[Operand.tmp 14], argTypes := #[53] }, type := 22, pos := "safe.go:51", after := #[{ on := 2, ground := Ground.data }, { on := 1, ground := Ground.chain }], guard := none }) rfl (fun K hK => ?_) AllReady.nil)
          · refine step_goG (by rfl) 36 _ _ rfl (args := #[.agg #[.int .i64 2, .string pred, .slice aa ats.length acap, .bool lv, .string lt, .bool rv, .string rt]]) (by first | rfl | (simp [Act.eval]; done) | simp [Act.eval, Act.put]) e2 ?_
            refine hh1.mono ?_
            rintro e w2 ⟨a2, c2', rfl, t2, hhv⟩
            refine ⟨_, rfl, ?_⟩
            (try go_simp)
            refine hK _ _ ?_
            clear hK K
            refine wpAny_ready (rs := [4]) (by kernel_rfl) (by simp) (AllReady.cons (o := { dst := some 16, op := Op.call { callee := Callee.value (Operand.func 35), args := #[Operand.tmp 15], argTypes := #[22] }, type := 82, pos := "safe.go:51", after := #[{ on := 3, ground := Ground.data }, { on := 3, ground := Ground.chain }], guard := none }) rfl (fun K hK => ?_) AllReady.nil)
            · refine step_goG (by rfl) 35 _ _ rfl (args := #[.slice a2 tl c2']) (by first | rfl | (simp [Act.eval]; done) | simp [Act.eval, Act.put]) e3 ?_
              refine (variables_any _ _ _ _).mono ?_
              rintro e w3 ⟨rfl, rfl⟩
              refine ⟨_, rfl, ?_⟩
              (try go_simp)
              refine hK _ _ ?_
              clear hK K
              refine wpAny_ready (rs := [5]) (by kernel_rfl) (by simp) (AllReady.cons (o := { dst := some 17, op := Op.call { callee := Callee.value (Operand.func 34), args := #[Operand.tmp 13, Operand.tmp 16], argTypes := #[78, 82] }, type := 4, pos := "safe.go:51", after := #[{ on := 1, ground := Ground.data }, { on := 4, ground := Ground.data }, { on := 4, ground := Ground.chain }], guard := none }) rfl (fun K hK => ?_) AllReady.nil)
              · refine step_goG (by rfl) 34 _ _ rfl (args := #[.map (some bm), .func (.func 48) #[] #[.pointer (some ⟨w2.heap.size, 0, none⟩)]]) (by first | rfl | (simp [Act.eval]; done) | simp [Act.eval, Act.put]) e4 ?_
                refine hhv.mono ?_
                rintro e w4 ⟨rfl, t4⟩
                refine ⟨_, rfl, ?_⟩
                (try go_simp)
                refine hK _ _ ?_
                clear hK K
                refine wpAny_ready (rs := [6]) (by kernel_rfl) (by simp) (AllReady.cons (o := { dst := some 4, op := Op.assign (Operand.tmp 17), type := 4, pos := "safe.go:51", after := #[{ on := 5, ground := Ground.data }, { on := 5, ground := Ground.chain }, { on := 0, ground := Ground.phase }, { on := 1, ground := Ground.phase }, { on := 2, ground := Ground.phase }, { on := 3, ground := Ground.phase }, { on := 4, ground := Ground.phase }, { on := 5, ground := Ground.phase }], guard := none }) rfl (fun K hK => ?_) AllReady.nil)
                · go_simp
                  refine hK _ _ ?_
                  clear hK K
                  refine wpAny_done (by kernel_rfl) ?_ _
                  unfold normQ
                  go_wp2
                  show R _ _
                  rw [HR.out, ← HRD.out, HAn.out]
                  exact ⟨rfl, ((HS0.out.trans S1.out).trans t2).trans t4⟩
      · go_simp
        refine hK _ _ ?_
        clear hK K
        refine wpAny_ready (rs := [1]) (by kernel_rfl) (by simp) (AllReady.cons (o := { dst := some 13, op := Op.call { callee := Callee.value (Operand.func 33), args := #[Operand.tmp 12], argTypes := #[28] }, type := 78, pos := "safe.go:51", after := #[{ on := 0, ground := Ground.data }], guard := none }) rfl (fun K hK => ?_) AllReady.nil)
        · refine step_goG (by rfl) 33 _ _ rfl (args := #[.slice a us.length c]) (by first | rfl | (simp [Act.eval]; done) | simp [Act.eval, Act.put]) e1 ?_
          refine hnm.mono ?_
          rintro e w1 ⟨bm, rfl, hS1, -, t1⟩
          have S1 : Hid (Stay w0 w1) := (Stay.drew w0).trans t1
          obtain ⟨c0, c1, c2, c3, c4, c5, c6⟩ := HC.out w1 S1.out
          have hh1 := HH.out w1 S1.out bm hS1
          refine ⟨_, rfl, ?_⟩
          (try go_simp)
          refine hK _ _ ?_
          clear hK K
          refine wpAny_ready (rs := [3]) (by kernel_rfl) (by simp) (AllReady.cons (o := { dst := some 15, op := Op.call { callee := Callee.value (Operand.func 36), args := #[Operand.tmp 14], argTypes := #[53] }, type := 22, pos := "safe.go:51", after := #[{ on := 2, ground := Ground.data }, { on := 1, ground := Ground.chain }], guard := none }) rfl (fun K hK => ?_) AllReady.nil)
          · refine step_goG (by rfl) 36 _ _ rfl (args := #[.agg #[.int .i64 2, .string pred, .slice aa ats.length acap, .bool lv, .string lt, .bool rv, .string rt]]) (by first | rfl | (simp [Act.eval]; done) | simp [Act.eval, Act.put]) e2 ?_
            refine hh1.mono ?_
            rintro e w2 ⟨a2, c2', rfl, t2, hhv⟩
            refine ⟨_, rfl, ?_⟩
            (try go_simp)
            refine hK _ _ ?_
            clear hK K
            refine wpAny_ready (rs := [4]) (by kernel_rfl) (by simp) (AllReady.cons (o := { dst := some 16, op := Op.call { callee := Callee.value (Operand.func 35), args := #[Operand.tmp 15], argTypes := #[22] }, type := 82, pos := "safe.go:51", after := #[{ on := 3, ground := Ground.data }, { on := 3, ground := Ground.chain }], guard := none }) rfl (fun K hK => ?_) AllReady.nil)
            · refine step_goG (by rfl) 35 _ _ rfl (args := #[.slice a2 tl c2']) (by first | rfl | (simp [Act.eval]; done) | simp [Act.eval, Act.put]) e3 ?_
              refine (variables_any _ _ _ _).mono ?_
              rintro e w3 ⟨rfl, rfl⟩
              refine ⟨_, rfl, ?_⟩
              (try go_simp)
              refine hK _ _ ?_
              clear hK K
              refine wpAny_ready (rs := [5]) (by kernel_rfl) (by simp) (AllReady.cons (o := { dst := some 17, op := Op.call { callee := Callee.value (Operand.func 34), args := #[Operand.tmp 13, Operand.tmp 16], argTypes := #[78, 82] }, type := 4, pos := "safe.go:51", after := #[{ on := 1, ground := Ground.data }, { on := 4, ground := Ground.data }, { on := 4, ground := Ground.chain }], guard := none }) rfl (fun K hK => ?_) AllReady.nil)
              · refine step_goG (by rfl) 34 _ _ rfl (args := #[.map (some bm), .func (.func 48) #[] #[.pointer (some ⟨w2.heap.size, 0, none⟩)]]) (by first | rfl | (simp [Act.eval]; done) | simp [Act.eval, Act.put]) e4 ?_
                refine hhv.mono ?_
                rintro e w4 ⟨rfl, t4⟩
                refine ⟨_, rfl, ?_⟩
                (try go_simp)
                refine hK _ _ ?_
                clear hK K
                refine wpAny_ready (rs := [6]) (by kernel_rfl) (by simp) (AllReady.cons (o := { dst := some 4, op := Op.assign (Operand.tmp 17), type := 4, pos := "safe.go:51", after := #[{ on := 5, ground := Ground.data }, { on := 5, ground := Ground.chain }, { on := 0, ground := Ground.phase }, { on := 1, ground := Ground.phase }, { on := 2, ground := Ground.phase }, { on := 3, ground := Ground.phase }, { on := 4, ground := Ground.phase }, { on := 5, ground := Ground.phase }], guard := none }) rfl (fun K hK => ?_) AllReady.nil)
                · go_simp
                  refine hK _ _ ?_
                  clear hK K
                  refine wpAny_done (by kernel_rfl) ?_ _
                  unfold normQ
                  go_wp2
                  show R _ _
                  rw [HR.out, ← HRD.out, HAn.out]
                  exact ⟨rfl, ((HS0.out.trans S1.out).trans t2).trans t4⟩
    · by_cases h3 : kind = 3
      · subst h3
        have HAn : Hid (rd = al) := by show _ = _; rw [HRD.out, HAL.out]; simp [readyB]
        go_enter Try.func15, Try.ntmps15
        go_wp2
        rw [← hw0]
        obtain ⟨b0, b1, b2, b3, b4, b5, b6⟩ := HC.out w0.drew (Stay.drew w0)
        clear d0 d1 d2 d3 d4 d5 d6 hw0
        refine region_wp (by kernel_rfl) ?_
        refine wpAny_take (i := 0) (v := .slice a us.length c) rfl (by kernel_rfl) (by kernel_rfl) (by kernel_rfl) (fun _ _ _ h => h) (Or.inl ⟨by rfl, fun W => by first | (go_simp; done) | (go_simp; with_reducible rfl)⟩) ?_
        refine wpAny_ready (rs := [1, 2]) (by kernel_rfl) (by simp) (AllReady.cons (o := { dst := some 13, op := Op.call { callee := Callee.value (Operand.func 33), args := #[Operand.tmp 12], argTypes := #[28] }, type := 78, pos := "safe.go:51", after := #[{ on := 0, ground := Ground.data }], guard := none }) rfl (fun K hK => ?_) (AllReady.cons (o := { dst := some 14, op := Op.load 53 (Operand.tmp 2), type := 53, pos := "safe.go:51", after := #[], guard := none }) rfl (fun K hK => ?_) AllReady.nil))
        · refine step_goG (by rfl) 33 _ _ rfl (args := #[.slice a us.length c]) (by first | rfl | (simp [Act.eval]; done) | simp [Act.eval, Act.put]) e1 ?_
          refine hnm.mono ?_
          rintro e w1 ⟨bm, rfl, hS1, -, t1⟩
          have S1 : Hid (Stay w0 w1) := (Stay.drew w0).trans t1
          obtain ⟨c0, c1, c2, c3, c4, c5, c6⟩ := HC.out w1 S1.out
          have hh1 := HH.out w1 S1.out bm hS1
          refine ⟨_, rfl, ?_⟩
          (try go_simp)
          refine hK _ _ ?_
          clear hK K
          refine wpAny_ready (rs := [2]) (by kernel_rfl) (by simp) (AllReady.cons (o := { dst := some 14, op := Op.load 53 (Operand.tmp 2), type := 53, pos := "safe.go:51", after := #[], guard := none }) rfl (fun K hK => ?_) AllReady.nil)
          · go_simp
            refine hK _ _ ?_
            clear hK K
            refine wpAny_ready (rs := [3]) (by kernel_rfl) (by simp) (AllReady.cons (o := { dst := some 15, op := Op.call { callee := Callee.value (Operand.func 36), args := #[Operand.tmp 14], argTypes := #[53] }, type := 22, pos := "safe.go:51", after := #[{ on := 2, ground := Ground.data }, { on := 1, ground := Ground.chain }], guard := none }) rfl (fun K hK => ?_) AllReady.nil)
            · refine step_goG (by rfl) 36 _ _ rfl (args := #[.agg #[.int .i64 3, .string pred, .slice aa ats.length acap, .bool lv, .string lt, .bool rv, .string rt]]) (by first | rfl | (simp [Act.eval]; done) | simp [Act.eval, Act.put]) e2 ?_
              refine hh1.mono ?_
              rintro e w2 ⟨a2, c2', rfl, t2, hhv⟩
              refine ⟨_, rfl, ?_⟩
              (try go_simp)
              refine hK _ _ ?_
              clear hK K
              refine wpAny_ready (rs := [4]) (by kernel_rfl) (by simp) (AllReady.cons (o := { dst := some 16, op := Op.call { callee := Callee.value (Operand.func 35), args := #[Operand.tmp 15], argTypes := #[22] }, type := 82, pos := "safe.go:51", after := #[{ on := 3, ground := Ground.data }, { on := 3, ground := Ground.chain }], guard := none }) rfl (fun K hK => ?_) AllReady.nil)
              · refine step_goG (by rfl) 35 _ _ rfl (args := #[.slice a2 tl c2']) (by first | rfl | (simp [Act.eval]; done) | simp [Act.eval, Act.put]) e3 ?_
                refine (variables_any _ _ _ _).mono ?_
                rintro e w3 ⟨rfl, rfl⟩
                refine ⟨_, rfl, ?_⟩
                (try go_simp)
                refine hK _ _ ?_
                clear hK K
                refine wpAny_ready (rs := [5]) (by kernel_rfl) (by simp) (AllReady.cons (o := { dst := some 17, op := Op.call { callee := Callee.value (Operand.func 34), args := #[Operand.tmp 13, Operand.tmp 16], argTypes := #[78, 82] }, type := 4, pos := "safe.go:51", after := #[{ on := 1, ground := Ground.data }, { on := 4, ground := Ground.data }, { on := 4, ground := Ground.chain }], guard := none }) rfl (fun K hK => ?_) AllReady.nil)
                · refine step_goG (by rfl) 34 _ _ rfl (args := #[.map (some bm), .func (.func 48) #[] #[.pointer (some ⟨w2.heap.size, 0, none⟩)]]) (by first | rfl | (simp [Act.eval]; done) | simp [Act.eval, Act.put]) e4 ?_
                  refine hhv.mono ?_
                  rintro e w4 ⟨rfl, t4⟩
                  refine ⟨_, rfl, ?_⟩
                  (try go_simp)
                  refine hK _ _ ?_
                  clear hK K
                  refine wpAny_ready (rs := [6]) (by kernel_rfl) (by simp) (AllReady.cons (o := { dst := some 4, op := Op.assign (Operand.tmp 17), type := 4, pos := "safe.go:51", after := #[{ on := 5, ground := Ground.data }, { on := 5, ground := Ground.chain }, { on := 0, ground := Ground.phase }, { on := 1, ground := Ground.phase }, { on := 2, ground := Ground.phase }, { on := 3, ground := Ground.phase }, { on := 4, ground := Ground.phase }, { on := 5, ground := Ground.phase }], guard := none }) rfl (fun K hK => ?_) AllReady.nil)
                  · go_simp
                    refine hK _ _ ?_
                    clear hK K
                    refine wpAny_done (by kernel_rfl) ?_ _
                    unfold normQ
                    go_wp2
                    show R _ _
                    rw [HR.out, ← HRD.out, HAn.out]
                    exact ⟨rfl, ((HS0.out.trans S1.out).trans t2).trans t4⟩
        · go_simp
          refine hK _ _ ?_
          clear hK K
          refine wpAny_ready (rs := [1]) (by kernel_rfl) (by simp) (AllReady.cons (o := { dst := some 13, op := Op.call { callee := Callee.value (Operand.func 33), args := #[Operand.tmp 12], argTypes := #[28] }, type := 78, pos := "safe.go:51", after := #[{ on := 0, ground := Ground.data }], guard := none }) rfl (fun K hK => ?_) AllReady.nil)
          · refine step_goG (by rfl) 33 _ _ rfl (args := #[.slice a us.length c]) (by first | rfl | (simp [Act.eval]; done) | simp [Act.eval, Act.put]) e1 ?_
            refine hnm.mono ?_
            rintro e w1 ⟨bm, rfl, hS1, -, t1⟩
            have S1 : Hid (Stay w0 w1) := (Stay.drew w0).trans t1
            obtain ⟨c0, c1, c2, c3, c4, c5, c6⟩ := HC.out w1 S1.out
            have hh1 := HH.out w1 S1.out bm hS1
            refine ⟨_, rfl, ?_⟩
            (try go_simp)
            refine hK _ _ ?_
            clear hK K
            refine wpAny_ready (rs := [3]) (by kernel_rfl) (by simp) (AllReady.cons (o := { dst := some 15, op := Op.call { callee := Callee.value (Operand.func 36), args := #[Operand.tmp 14], argTypes := #[53] }, type := 22, pos := "safe.go:51", after := #[{ on := 2, ground := Ground.data }, { on := 1, ground := Ground.chain }], guard := none }) rfl (fun K hK => ?_) AllReady.nil)
            · refine step_goG (by rfl) 36 _ _ rfl (args := #[.agg #[.int .i64 3, .string pred, .slice aa ats.length acap, .bool lv, .string lt, .bool rv, .string rt]]) (by first | rfl | (simp [Act.eval]; done) | simp [Act.eval, Act.put]) e2 ?_
              refine hh1.mono ?_
              rintro e w2 ⟨a2, c2', rfl, t2, hhv⟩
              refine ⟨_, rfl, ?_⟩
              (try go_simp)
              refine hK _ _ ?_
              clear hK K
              refine wpAny_ready (rs := [4]) (by kernel_rfl) (by simp) (AllReady.cons (o := { dst := some 16, op := Op.call { callee := Callee.value (Operand.func 35), args := #[Operand.tmp 15], argTypes := #[22] }, type := 82, pos := "safe.go:51", after := #[{ on := 3, ground := Ground.data }, { on := 3, ground := Ground.chain }], guard := none }) rfl (fun K hK => ?_) AllReady.nil)
              · refine step_goG (by rfl) 35 _ _ rfl (args := #[.slice a2 tl c2']) (by first | rfl | (simp [Act.eval]; done) | simp [Act.eval, Act.put]) e3 ?_
                refine (variables_any _ _ _ _).mono ?_
                rintro e w3 ⟨rfl, rfl⟩
                refine ⟨_, rfl, ?_⟩
                (try go_simp)
                refine hK _ _ ?_
                clear hK K
                refine wpAny_ready (rs := [5]) (by kernel_rfl) (by simp) (AllReady.cons (o := { dst := some 17, op := Op.call { callee := Callee.value (Operand.func 34), args := #[Operand.tmp 13, Operand.tmp 16], argTypes := #[78, 82] }, type := 4, pos := "safe.go:51", after := #[{ on := 1, ground := Ground.data }, { on := 4, ground := Ground.data }, { on := 4, ground := Ground.chain }], guard := none }) rfl (fun K hK => ?_) AllReady.nil)
                · refine step_goG (by rfl) 34 _ _ rfl (args := #[.map (some bm), .func (.func 48) #[] #[.pointer (some ⟨w2.heap.size, 0, none⟩)]]) (by first | rfl | (simp [Act.eval]; done) | simp [Act.eval, Act.put]) e4 ?_
                  refine hhv.mono ?_
                  rintro e w4 ⟨rfl, t4⟩
                  refine ⟨_, rfl, ?_⟩
                  (try go_simp)
                  refine hK _ _ ?_
                  clear hK K
                  refine wpAny_ready (rs := [6]) (by kernel_rfl) (by simp) (AllReady.cons (o := { dst := some 4, op := Op.assign (Operand.tmp 17), type := 4, pos := "safe.go:51", after := #[{ on := 5, ground := Ground.data }, { on := 5, ground := Ground.chain }, { on := 0, ground := Ground.phase }, { on := 1, ground := Ground.phase }, { on := 2, ground := Ground.phase }, { on := 3, ground := Ground.phase }, { on := 4, ground := Ground.phase }, { on := 5, ground := Ground.phase }], guard := none }) rfl (fun K hK => ?_) AllReady.nil)
                  · go_simp
                    refine hK _ _ ?_
                    clear hK K
                    refine wpAny_done (by kernel_rfl) ?_ _
                    unfold normQ
                    go_wp2
                    show R _ _
                    rw [HR.out, ← HRD.out, HAn.out]
                    exact ⟨rfl, ((HS0.out.trans S1.out).trans t2).trans t4⟩
      · have g1 : (kind == 1) = false := by simpa using h1
        have g2 : (kind == 2) = false := by simpa using h2
        have g3 : (kind == 3) = false := by simpa using h3
        have HF : Hid (readyB ⟨kind, ⟨pred, aa, ab, aoff, acap, ats⟩, ⟨lv, lt⟩, ⟨rv, rt⟩⟩ us = false) := by show _ = _; simp [readyB, g1, g2, g3]
        go_enter Try.func15, Try.ntmps15
        go_wp2
        show R _ _
        rw [HR.out]
        exact ⟨by rw [HF.out]; rfl, by rw [← hw0]; exact HS0.out⟩
end Go.Proofs.Ytpnjmldbohecdaa
