/- SafeRule is true where what it reads is of bulk at most 1048576: of any rule, in form or not, and any names that are bound, Vars, Bound, Way, Rule and Ready tell what the document tells; the rule and the names stay as they were; lists that are told are new each time. -/
import Derived.Test.YtpnjmldbohecdaaRUg
import Derived.Test.YtpnjmldbohecdaaEC
import Derived.Test.YtpnjmldbohecdaaEA
import Derived.JoinedCond
namespace Go.Proofs.Ytpnjmldbohecdaa
open Go.ChangeShapes Go.WideShapes Go.ChangeAt Go.RowKit

section
variable {H : Type} {enc0 : TypeId × Value → H} {W : World}
def StZ (s : ByteArray) (d : DataW H) : Prop := s.size + 1 ≤ Rows.uptoBulk d
theorem open_stZ (m : Nat) (cs : List Value) (y : DataW H × List MemPlace) (h : DataW.trod enc0 Try.prog W 0 (fun _ => true) true m 9 cs = some y) : ∃ s : ByteArray, cs = encSt s ∧ StZ s y.1 := by
  obtain ⟨s, e2, e3, _⟩ := DataW.trod_string Try.underlying9 h
  refine ⟨s, e2, ?_⟩
  unfold StZ
  rw [e3]
  exact Nat.le_of_eq (bulk_text s).symm
/-- An argument that is a list of texts. -/
theorem open_stsV {a0 : Option Addr} {len cap : Nat} {d : DataW H} {p : List MemPlace} (h : DataW.Trod enc0 Try.prog W 0 (fun _ => true) true 28 (.slice a0 len cap) d p) :
    ∃ (b off : Nat) (xs : List ByteArray), len = xs.length ∧ RecS 1 encSt W a0 b off xs ∧ (a0 = none → cap = 0 ∧ xs = []) ∧ (∀ s ∈ xs, s.size ≤ Rows.uptoBulk d) ∧ xs.length ≤ Rows.uptoBulk d := by
  obtain ⟨fuel, hf⟩ := h
  obtain ⟨a1, cap1, b, off, xs, e1, hR, hfr, hd⟩ := open_recs encStOk Try.underlying28 cSt (fun x d => StZ x d) (fun m cs y h => open_stZ m cs y h) hf
  have hl := read_lenR (fun (x : ByteArray) (d : DataW H) => StZ x d) hd
  have hm : ∀ s ∈ xs, s.size ≤ Rows.uptoBulk d := fun s hs => by
    obtain ⟨d', q1, q2⟩ := bulk_in hd hs
    have g1 : s.size + 1 ≤ Rows.uptoBulk d' := q1
    have g2 : Rows.uptoBulk d' ≤ Rows.uptoBulk d := q2
    omega
  simp [Value.cells] at e1
  obtain ⟨rfl, rfl, rfl⟩ := e1
  exact ⟨b, off, xs, rfl, hR, hfr, hm, hl⟩
end

set_option maxRecDepth 100000 in
theorem safeRule_lifted (os : Os) (started : os.Started) (H : Type) (enc : TypeId × Value → H) (F : Stop.Interp) :
    ReturnsInHanded {} Try.checked os 3 .any ((Rows.OpenSpec.upto Rows.safeRuleSpec).pre6 enc Try.prog Try.f3 Rows.safeRuleUptoRow.domain false) (((Rows.OpenSpec.upto Rows.safeRuleSpec).at F).post enc Try.prog Try.f3 false true false false) := by
  refine returnsInHanded_of_cond (C := Try.checked) (s := Rows.OpenSpec.upto Rows.safeRuleSpec) (k := Rows.uptoSmall) rfl ownKnL started (by kernel_rfl) Try.func3
    (OpenSpec.witness (enc := enc) (C := Try.checked) (s := Rows.OpenSpec.upto Rows.safeRuleSpec) (k := Rows.uptoSmall) rfl false ⟨#[], #[.agg #[.string ⟨#[]⟩, .slice none 0 0, .slice none 0 0], .slice none 0 0], []⟩ 8 (by kernel_rfl) (by kernel_rfl) (by kernel_rfl)
      (x := ([.agg [.agg [.lit (.string []), .nil], .nil], .nil], [], [])) (by kernel_rfl) rfl (by kernel_rfl)) ?_
  intro W base args ds gs before hval0 hW _ hk _
  have hval : ∀ (j : Nat) t v, Try.f3.params[j]? = some t → args[j]? = some v → Value.okWide Try.prog W .any base t v := hval0
  have hW' := hW
  obtain ⟨p, q, hA0, hV, rfl, _, _⟩ := hW
  have hA : DataW.TrodAll enc Try.prog W 0 (fun _ => true) true Try.f3.params.toList args.toList ds p := hA0
  rw [Try.params3] at hA hval
  obtain ⟨v1, vs1, d1, ds1, p1, q1, hargs1, rfl, rfl, h1, r1⟩ := trodAll_cons hA
  obtain ⟨v2, vs2, d2, ds2, p2, q2, hargs2, rfl, rfl, h2, r2⟩ := trodAll_cons r1
  obtain ⟨rfl, rfl, rfl⟩ := trodAll_nil r2
  obtain rfl : args = #[v1, v2] := by cases args; simp_all
  obtain ⟨rfl, rfl⟩ := trodVars_none hV
  have hv1 := hval 0 27 v1 rfl rfl
  obtain ⟨a2, len2, cap2, rfl⟩ := okWide_slice Try.underlying28 (hval 1 28 v2 rfl rfl)
  clear hA0 hval0
  simp only [List.append_nil] at hW'
  have hlt : ∀ x ∈ p1 ++ p2, x.block < W.heap.size := fun x hx => by simpa using hW'.lt x (by simpa using hx)
  obtain ⟨x, rfl, hx⟩ := open_ruV hv1 h1
  obtain ⟨mb, mo, us, rfl, huR, huf, huS, hul⟩ := open_stsV h2
  have hk' : Rows.uptoBulkAll [d1, d2] ≤ 1048576 := by
    have := of_decide_eq_true hk
    simpa using this
  simp only [Rows.uptoBulkAll] at hk'
  have hx1 := hx.mono (m := 1048576) (by omega)
  have hx2 := hx1.mass
  have hpm := placesB_mass 0 x.body
  have hvl := varsT_len x.head.ts
  have hms : (x.body.map Li.mass).sum = (x.body.map (fun l => l.atom.ts.length + 3)).sum := rfl
  have hxm := mass_len x.body
  unfold Ru.mass at hx2
  have hpr : (placesR x).length ≤ 1048576 := by
    simp only [placesR, List.length_append, List.length_map]
    omega
  have hbl : (bindP x.body).length ≤ 1048576 := by
    have : (bindP x.body).length ≤ (placesB 0 x.body).length := by rw [bindP_eq]; exact List.length_filter_le _ _
    omega
  have ho1 := onceN_len (placesR x)
  have ho2 := onceN_len (bindP x.body)
  have hwl : (wayL x.body).length ≤ x.body.length := by
    unfold wayL
    split
    · rename_i h
      rw [way_len (show wayOkB x.body = true from h)]
      exact List.length_filter_le _ _
    · exact Nat.zero_le _
  have hfl : (faultsF 0 [x]).length ≤ 1048576 := by
    rw [faults_one, List.length_map, looseP_lf]
    have := lf_sub (bindP x.body) (placesR x)
    omega
  refine (safeRule_walk x us a2 mb mo cap2 W hx1.fit hx1.fairR (fun l hl => (hx1.lits l hl).wf) huR huf (by omega) (fun s hs => by have := huS s hs; omega) (by omega) (by omega) (by omega) (by omega)).mono fun e W' ⟨he, bel0⟩ => ?_
  have bel : Below W.heap.size W W' := bel0
  subst he
  exact ⟨_, rfl, _, _, _, [], p1 ++ p2, [], hW', trodAll_mk1 (shut_bool Try.underlying4 _),
    (by have q := trodAll_cons_mk (Below.trod laidOutR (by kernel_rfl) (of_decide_eq_true (by kernel_rfl)) h1 bel (fun x hx => hlt x (List.mem_append_left _ hx))) (trodAll_mk1 (Below.trod laidOutR (by kernel_rfl) (of_decide_eq_true (by kernel_rfl)) h2 bel (fun x hx => hlt x (List.mem_append_right _ hx)))); exact q),
    rfl, bel.frame _, fun h => by cases h⟩

theorem safeRule_holds : Rows.SafeRuleUptoSaid :=
  OpenClaim.holds_of_cond 3 Try.f3 rfl rfl rfl rfl rfl rfl rfl ⟨rfl, rfl, rfl, rfl, rfl⟩ rfl rfl rfl rfl rfl (by kernel_rfl) Try.func3 (by kernel_rfl)
    (of_decide_eq_true (by kernel_rfl)) (by unfold Func.isWrapper; first | (rw [if_pos (by decide +kernel)]; kernel_rfl) | (rw [if_neg (by decide +kernel)]; exact ⟨rfl, rfl⟩))
    (fun os started H enc _ F => safeRule_lifted os started H enc F)
#print axioms safeRule_holds
end Go.Proofs.Ytpnjmldbohecdaa
