/- LexByte's walk. -/
import Derived.Test.YtbnlhddgpkfllaaDoorYI
import Derived.Test.YtbnlhddgpkfllaaDoorXX
import Derived.Laws.IdiomStrings
namespace Go.Proofs.YtbnlhddgpkfllaaDoor
open Go.RowKit Go.Maps

theorem byte_string {W : World} {b cap : Nat} {m : UInt8} {T : TypeId} (h : W.heap[b]? = some (.cells #[.int .u8 (m.toNat : Int)] T (0, 0))) : (convert 43 9 (.slice (some ⟨b, 0, none⟩) 1 cap)).run Tryd.prog W = .ok (.string ⟨[m].toArray⟩) W := by
  refine run_convert_bytes_back (P := Tryd.prog) W 43 9 5 ⟨b, 0, none⟩ cap [m] Tryd.underlying43 Tryd.underlying5 Tryd.underlying9 (fun j hj => ?_)
  obtain rfl : j = 0 := by simpa using hj
  show W.cell? ⟨b, 0, none⟩ = _
  simp [World.cell?, h]

set_option maxRecDepth 100000 in
set_option maxHeartbeats 4000000 in
theorem lexByte_walk (s : ByteArray) (m : UInt8) (w : World) (hT : Tabs w) (hs : s.size ≤ 1048576) : Calls Tryd.prog 8 #[.string s, .int .u8 (m.toNat : Int)] w fun e w' => e = .returned (.bool true) ∧ Stay w w' := by
  have hkn := known_any w hT
  obtain ⟨L, rfl⟩ : ∃ L : List UInt8, s = ⟨L.toArray⟩ := ⟨s.data.toList, by simp⟩
  have hlen : (⟨L.toArray⟩ : ByteArray).size = L.length := by show L.toArray.size = _; simp
  have t1 := fun W (hW : Tabs W) => Tokens_any ⟨L.toArray⟩ (by omega) W hW
  have t2 := fun W (hW : Tabs W) => Tokens_any ⟨(L ++ [m]).toArray⟩ (by show (L ++ [m]).toArray.size ≤ _; simp; omega) W hW
  have hb := lex_byte L m
  dsimp only at t1 t2
  have HT : Hid (Tabs w) := hT
  generalize lexT L = U at *
  generalize lexT (L ++ [m]) = V at *
  obtain ⟨l1, o1, far, e1⟩ := U
  obtain ⟨l2, o2, n, e2⟩ := V
  dsimp only at t1 t2 hb
  dsimp only [Tok.val, Tok.cells] at t1 t2
  have HB : Hid ((e1 ≠ 0 → far ≤ n) ∧ (e1 = 0 → far = L.length ∧ (n = far ∧ e2 ≠ 0 ∨ n = far + 1))) := hb
  have HL : Hid ((⟨L.toArray⟩ : ByteArray).size = L.length ∧ L.length ≤ 1048576) := ⟨hlen, by omega⟩
  clear hb hT hs hlen
  go_enter Tryd.func8, Tryd.ntmps8
  go_wp2_with fail
  refine hkn.mono ?_
  rintro e W0 ⟨rfl, hs0⟩
  have H0 : Hid (Stay w W0) := hs0
  clear hkn hs0
  go_wp2_with fail
  refine (t1 W0 (HT.out.stay H0.out)).mono ?_
  rintro e W1 ⟨v1, rfl, hO1, hs1⟩
  have H1 : Hid (Stay w W1) := H0.out.trans hs1
  clear t1 hO1 hs1
  have hcv := byte_string (m := m) (cap := 1) (T := 5) (W := (W1.alloc (.cells #[.int .i64 o1.kind, .string ⟨o1.text.toArray⟩, .int .i64 (o1.at_ : Int), .int .i64 (o1.fin : Int)] 25)).alloc (.cells #[.int .u8 (m.toNat : Int)] 5)) (b := W1.heap.size + 1) (by
    have := heap_new (W1.alloc (.cells #[.int .i64 o1.kind, .string ⟨o1.text.toArray⟩, .int .i64 (o1.at_ : Int), .int .i64 (o1.fin : Int)] 25)) (.cells #[.int .u8 (m.toNat : Int)] 5)
    rwa [World.size_alloc] at this)
  have hsum : ¬ 9223372036854775807 < L.length + 1 := by have := HL.out.2; omega
  have hadd : (⟨L.toArray⟩ ++ ⟨#[m]⟩ : ByteArray) = ⟨(L ++ [m]).toArray⟩ := by
    apply ByteArray.ext
    rw [ByteArray.data_append]
    simp
  rw [← hadd] at t2
  have hs1 : Stay w ((W1.alloc (.cells #[.int .i64 o1.kind, .string ⟨o1.text.toArray⟩, .int .i64 (o1.at_ : Int), .int .i64 (o1.fin : Int)] 25)).alloc (.cells #[.int .u8 (m.toNat : Int)] 5)) := H1.out.trans ((Stay.new _ _).alloc _)
  have H2 : Hid (Stay w ((W1.alloc (.cells #[.int .i64 o1.kind, .string ⟨o1.text.toArray⟩, .int .i64 (o1.at_ : Int), .int .i64 (o1.fin : Int)] 25)).alloc (.cells #[.int .u8 (m.toNat : Int)] 5))) := hs1
  clear hadd hs1
  go_wp2_with fail
  refine (t2 _ (HT.out.stay H2.out)).mono ?_
  rintro e W2 ⟨v2, rfl, hO2, hs2⟩
  have H3 : Hid (Stay w (W2.alloc (.cells #[.int .i64 o2.kind, .string ⟨o2.text.toArray⟩, .int .i64 (o2.at_ : Int), .int .i64 (o2.fin : Int)] 25))) := (H2.out.trans hs2).trans (Stay.new _ _)
  clear t2 hO2 hs2 hcv hsum
  obtain ⟨X, hX⟩ : ∃ X, X = W2.alloc (.cells #[.int .i64 o2.kind, .string ⟨o2.text.toArray⟩, .int .i64 (o2.at_ : Int), .int .i64 (o2.fin : Int)] 25) := ⟨_, rfl⟩
  have HX : Hid (X = W2.alloc (.cells #[.int .i64 o2.kind, .string ⟨o2.text.toArray⟩, .int .i64 (o2.at_ : Int), .int .i64 (o2.fin : Int)] 25)) := hX
  rw [← hX] at H3
  clear hX
  by_cases he : e1 = 0
  · obtain ⟨hf, hn⟩ := HB.out.2 he
    have z1 : (e1 == 0) = true := by simp [he]
    have z1' : (!e1 == 0) = false := by simp [he]
    have z2 : ((far : Int) == (L.length : Int)) = true := by simp [hf]
    rcases hn with ⟨hn, he2⟩ | hn
    · have z3 : ((n : Int) == (far : Int)) = true := by simp [hn]
      have z4 : (e2 == 0) = false := by simp [he2]
      clear HB
      go_wp2_with (first
        | (go_at_call 12; refine (num_any _ _).mono ?_; rintro e w' ⟨rfl, hw'⟩; have hw2 := hw'.symm; subst hw2))
      go_ret
      exact ⟨rfl, by rw [← HX.out]; exact H3.out⟩
    · have z3 : ((n : Int) == (far : Int)) = false := by simp [hn]; omega
      have z5 : Go.RowKit.wrap64 ((L.length : Int) + 1) = (L.length : Int) + 1 := by
        have hl := HL.out.2
        unfold Go.RowKit.wrap64
        omega
      clear HB
      go_wp2_with (first
        | (go_at_call 12; refine (num_any _ _).mono ?_; rintro e w' ⟨rfl, hw'⟩; have hw2 := hw'.symm; subst hw2))
      go_ret
      exact ⟨rfl, by rw [← HX.out]; exact H3.out⟩
  · have hf := HB.out.1 he
    have z1 : (e1 == 0) = false := by simp [he]
    have z2 : decide ((far : Int) ≤ (n : Int)) = true := by simp [hf]
    have z3 : decide (far ≤ n) = true := by simp [hf]
    clear HB
    go_wp2_with (first
      | (go_at_call 12; refine (num_any _ _).mono ?_; rintro e w' ⟨rfl, hw'⟩; have hw2 := hw'.symm; subst hw2))
    go_ret
    exact ⟨rfl, by rw [← HX.out]; exact H3.out⟩
end Go.Proofs.YtbnlhddgpkfllaaDoor
