/- SafeMore is true where what it reads is of bulk at most 1048576: a safe rule stays safe with positive literals more, anywhere, and without some that are not positive; the rule and the lists stay as they were. -/
import Derived.Test.YtcincbckpnmkiaaQQ
import Derived.Test.YtcincbckpnmkiaaEC
import Derived.JoinedCond
namespace Go.Proofs.Ytcincbckpnmkiaa
open Go.ChangeShapes Go.WideShapes Go.ChangeAt Go.RowKit

theorem cBs : Try.prog.cellsOf 67 = 1 := by kernel_rfl
def encBl (b : Bool) : List Value := [.bool b]
theorem encBlOk : EncOk 1 encBl := ⟨fun _ => rfl, fun _ u hu => by simp [encBl] at hu; subst hu; rfl, by decide⟩
section
variable {H : Type} {enc0 : TypeId × Value → H} {W : World}
theorem open_blsV {a0 : Option Addr} {len cap : Nat} {d : DataW H} {p : List MemPlace} (h : DataW.Trod enc0 Try.prog W 0 (fun _ => true) true 67 (.slice a0 len cap) d p) :
    ∃ (b off : Nat) (bs : List Bool), len = bs.length ∧ BlsS W a0 b off bs ∧ bs.length ≤ Rows.uptoBulk d := by
  obtain ⟨fuel, hf⟩ := h
  obtain ⟨a1, cap1, b, off, xs, e1, hR, hfr, hd⟩ := open_recs encBlOk Try.underlying67 cBo (fun _ _ => True) (fun m cs y h => by obtain ⟨b, e, _⟩ := DataW.trod_bool Try.underlying4 h; exact ⟨b, e, trivial⟩) hf
  have hl := read_lenR (fun (_ : Bool) (_ : DataW H) => True) hd
  simp [Value.cells] at e1
  obtain ⟨rfl, rfl, rfl⟩ := e1
  exact ⟨b, off, xs, rfl, ⟨hR.1, fun j hj => by have := hR.2 j hj 0 _ rfl; rwa [Nat.mul_one, Nat.add_zero] at this⟩, hl⟩
end

set_option maxRecDepth 100000 in
theorem safeMore_lifted (os : Os) (started : os.Started) (H : Type) (enc : TypeId × Value → H) (F : Stop.Interp) :
    ReturnsInHanded {} Try.checked os 7 .any ((Rows.OpenSpec.upto Rows.safeMoreSpec).pre6 enc Try.prog Try.f7 Rows.safeMoreUptoRow.domain false) (((Rows.OpenSpec.upto Rows.safeMoreSpec).at F).post enc Try.prog Try.f7 false true false false) := by
  refine returnsInHanded_of_cond (C := Try.checked) (s := Rows.OpenSpec.upto Rows.safeMoreSpec) (k := Rows.uptoSmall) rfl ownKnL started (by kernel_rfl) Try.func7
    (OpenSpec.witness (enc := enc) (C := Try.checked) (s := Rows.OpenSpec.upto Rows.safeMoreSpec) (k := Rows.uptoSmall) rfl false ⟨#[], #[.agg #[.string ⟨#[]⟩, .slice none 0 0, .slice none 0 0], .slice none 0 0, .slice none 0 0], []⟩ 8 (by kernel_rfl) (by kernel_rfl) (by kernel_rfl)
      (x := ([.agg [.agg [.lit (.string []), .nil], .nil], .nil, .nil], [], [])) (by kernel_rfl) rfl (by kernel_rfl)) ?_
  intro W base args ds gs before hval0 hW _ hk _
  have hval : ∀ (j : Nat) t v, Try.f7.params[j]? = some t → args[j]? = some v → Value.okWide Try.prog W .any base t v := hval0
  have hW' := hW
  obtain ⟨p, q, hA0, hV, rfl, _, _⟩ := hW
  have hA : DataW.TrodAll enc Try.prog W 0 (fun _ => true) true Try.f7.params.toList args.toList ds p := hA0
  rw [Try.params7] at hA hval
  obtain ⟨v1, vs1, d1, ds1, p1, q1, hargs1, rfl, rfl, h1, r1⟩ := trodAll_cons hA
  obtain ⟨v2, vs2, d2, ds2, p2, q2, hargs2, rfl, rfl, h2, r2⟩ := trodAll_cons r1
  obtain ⟨v3, vs3, d3, ds3, p3, q3, hargs3, rfl, rfl, h3, r3⟩ := trodAll_cons r2
  obtain ⟨rfl, rfl, rfl⟩ := trodAll_nil r3
  obtain rfl : args = #[v1, v2, v3] := by cases args; simp_all
  obtain ⟨rfl, rfl⟩ := trodVars_none hV
  have hv1 := hval 0 27 v1 rfl rfl
  obtain ⟨a2, len2, cap2, rfl⟩ := okWide_slice Try.underlying25 (hval 1 25 v2 rfl rfl)
  obtain ⟨a3, len3, cap3, rfl⟩ := okWide_slice Try.underlying67 (hval 2 67 v3 rfl rfl)
  clear hA0 hval0
  simp only [List.append_nil] at hW'
  have hlt : ∀ x ∈ p1 ++ (p2 ++ p3), x.block < W.heap.size := fun x hx => by simpa using hW'.lt x (by simpa using hx)
  obtain ⟨x, rfl, hx⟩ := open_ruV hv1 h1
  obtain ⟨mb, mo, ms, rfl, hmR, hmf, hmB, hmS⟩ := open_lisV h2
  obtain ⟨ob, oo, bs, rfl, hbS, hbl⟩ := open_blsV h3
  have hk' : Rows.uptoBulkAll [d1, d2, d3] ≤ 1048576 := by
    have := of_decide_eq_true hk
    simpa using this
  simp only [Rows.uptoBulkAll] at hk'
  have hx1 := hx.mono (m := 1048576) (by omega)
  have hms := mass_len ms
  have hxm := mass_len x.body
  have hx2 := hx1.mass
  unfold Ru.mass at hx2
  refine (safeMore_walk x W a2 mb mo cap2 ms a3 ob oo cap3 bs hx1.fit hx1.fairR hmR (fun m hm => ((hmB m hm).mono (by omega)).fit) hbS (by omega) (by omega) (by omega)).mono fun e W' ⟨he, bel0⟩ => ?_
  have bel : Below W.heap.size W W' := bel0
  subst he
  exact ⟨_, rfl, _, _, _, [], p1 ++ (p2 ++ p3), [], hW', trodAll_mk1 (shut_bool Try.underlying4 _),
    trodAll_cons_mk (Below.trod laidOutR (by kernel_rfl) (of_decide_eq_true (by kernel_rfl)) h1 bel (fun x hx => hlt x (by simp [hx]))) (trodAll_cons_mk (Below.trod laidOutR (by kernel_rfl) (of_decide_eq_true (by kernel_rfl)) h2 bel (fun x hx => hlt x (by simp [hx]))) (trodAll_mk1 (Below.trod laidOutR (by kernel_rfl) (of_decide_eq_true (by kernel_rfl)) h3 bel (fun x hx => hlt x (by simp [hx]))))),
    rfl, bel.frame _, fun h => by cases h⟩

theorem safeMore_holds : Rows.SafeMoreUptoSaid :=
  OpenClaim.holds_of_cond 7 Try.f7 rfl rfl rfl rfl rfl rfl rfl ⟨rfl, rfl, rfl, rfl, rfl⟩ rfl rfl rfl rfl rfl (by kernel_rfl) Try.func7 (by kernel_rfl)
    (of_decide_eq_true (by kernel_rfl)) (by unfold Func.isWrapper; first | (rw [if_pos (by decide +kernel)]; kernel_rfl) | (rw [if_neg (by decide +kernel)]; exact ⟨rfl, rfl⟩))
    (fun os started H enc _ F => safeMore_lifted os started H enc F)
#print axioms safeMore_holds
end Go.Proofs.Ytcincbckpnmkiaa
