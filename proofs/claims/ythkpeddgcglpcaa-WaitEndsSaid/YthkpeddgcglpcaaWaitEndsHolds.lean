/- WaitEnds returns true for every input, and its argument reads afterwards as before. No condition. -/
import Derived.Test.YthkpeddgcglpcaaWaitEnds
import Derived.Test.YthkpeddgcglpcaaOpen4
namespace Go.Proofs.Ythkpeddgcglpcaa
open Go.ChangeShapes Go.WideShapes Go.ChangeAt Go.RowKit Go.Deep Go.Joins

theorem sized_agg3 {H : Type} {P : Program} {t : TypeId} {f0 f1 f2 : Field} {d0 d1 d2 : DataW H} (hu : P.underlying t = some (.struct #[f0, f1, f2])) (h : Sized P t (.agg [d0, d1, d2])) : Sized P f0.type d0 ∧ Sized P f1.type d1 ∧ Sized P f2.type d2 := by
  have key : ∀ n, n ∈ d0.weights P f0.type ∨ n ∈ d1.weights P f1.type ∨ n ∈ d2.weights P f2.type → n ≤ reachBytes := fun n hn => h n (by
    simp only [DataW.weights, hu, DataW.weightsEach, List.map_cons, List.map_nil, List.mem_append, List.append_nil]
    exact hn)
  exact ⟨fun n hn => key n (.inl hn), fun n hn => key n (.inr (.inl hn)), fun n hn => key n (.inr (.inr hn))⟩
namespace WaitEndsLift

set_option maxRecDepth 100000 in
theorem contract {H : Type} {enc : TypeId × Value → H} (W : World) {base : Nat} (v : Value) (d : DataW H) (p : List MemPlace)
    (hv : Value.okWide Try.prog W .any base 25 v) (h : DataW.Trod enc Try.prog W 0 (fun _ => true) true 25 v d p) (hsz : Sized Try.prog 25 d) :
    Calls Try.prog 3 #[v] W fun e W' => e = .returned (.bool true) ∧ Below W.heap.size W W' := by
  obtain ⟨c0, c1, c2, y0, y1, y2, m, rfl, hd, -, hy0, hy1, hy2⟩ := open_agg3 Try.underlying25 (by kernel_rfl) cellsAsk4 hv h
  rw [hd] at hsz
  obtain ⟨s0, s1, s2⟩ := sized_agg3 Try.underlying25 hsz
  obtain ⟨nl, F, hL⟩ := lists_open Try.underlying22 (by kernel_rfl) (of_decide_eq_true (by kernel_rfl)) Try.underlying27 Try.underlying41 (by kernel_rfl) (of_decide_eq_true (by kernel_rfl)) ⟨rfl, rfl⟩ ⟨by kernel_rfl, by kernel_rfl⟩ (by kernel_rfl) Try.underlying23 (by kernel_rfl) (by kernel_rfl) (of_decide_eq_true (by kernel_rfl)) hy0 s0
  obtain ⟨la, hla, pa, ca, rfl, -, -⟩ := ints_open Try.underlying23 (by kernel_rfl) (by kernel_rfl) (of_decide_eq_true (by kernel_rfl)) hy1 s1
  obtain ⟨ln, hln, pn, cn, rfl, -, -⟩ := ints_open Try.underlying23 (by kernel_rfl) (by kernel_rfl) (of_decide_eq_true (by kernel_rfl)) hy2 s2
  exact waitEnds_any W c0 nl F pa pn la.length ln.length ca cn hL hla hln

set_option maxRecDepth 100000 in
theorem lifted (os : Os) (started : os.Started) (H : Type) (enc : TypeId × Value → H) :
    ReturnsInHanded {} Try.checked os 3 .any (Rows.waitEndsSpec.pre6 enc Try.prog Try.f3 Rows.waitEndsRow.domain false) (Rows.waitEndsSpec.post enc Try.prog Try.f3 false true false false) := by
  refine returnsInHanded_of_change_sized (C := Try.checked) own started (by kernel_rfl) Try.func3
    (ChangeSpec.witness6 (enc := enc) (C := Try.checked) false ⟨#[], #[.agg #[.slice none 0 0, .slice none 0 0, .slice none 0 0]], []⟩ 8 (by kernel_rfl) (by kernel_rfl) (by kernel_rfl) (by kernel_rfl)) ?_
  intro W base args ds gs before hval0 hW _ hz _
  have hval : ∀ (j : Nat) t v, Try.f3.params[j]? = some t → args[j]? = some v → Value.okWide Try.prog W .any base t v := hval0
  have hW' := hW
  obtain ⟨p, q, hA0, hV, rfl, _, _⟩ := hW
  have hA : DataW.TrodAll enc Try.prog W 0 (fun _ => true) true Try.f3.params.toList args.toList ds p := hA0
  rw [Try.params3] at hA hval
  obtain ⟨v0, d0, rfl, rfl, h0⟩ := trodAll_one hA
  obtain ⟨rfl, rfl⟩ := trodVars_none hV
  have h0k := h0
  have hsz : Sized Try.prog 25 d0 := fun n hn => by simpa using List.all_eq_true.1 hz _ (DataW.weights_mem_each (j := 0) (t := 25) rfl rfl n hn)
  clear hA0 hval0
  simp only [List.append_nil] at hW'
  have hlt : ∀ x ∈ p, x.block < W.heap.size := fun x hx => by simpa using hW'.lt x hx
  have fin : ∀ W' : World, Below W.heap.size W W' → Rows.waitEndsSpec.post enc Try.checked.prog Try.f3 false true false false W #[v0] (.bool true) W' := by
    intro W' hnx
    refine ⟨_, _, _, [] , p, [], hW', ?_, ?_, rfl, hnx.frame _, fun h => by cases h⟩
    · exact trodAll_mk1 (shut_bool Try.underlying4 true)
    · exact trodAll_mk1 (Below.trod laidOut (by kernel_rfl) (of_decide_eq_true (by kernel_rfl)) h0k hnx hlt)
  refine (contract W v0 d0 p (hval 0 25 v0 rfl rfl) h0 hsz).mono fun e W' ⟨he, hb⟩ => ?_
  subst he
  exact ⟨_, rfl, fin W' hb⟩
end WaitEndsLift

theorem waitEnds_holds : Rows.WaitEndsSaid :=
  OpenClaim.holds_of_wide 3 Try.f3 rfl rfl rfl rfl rfl rfl rfl ⟨rfl, rfl, rfl, rfl, rfl⟩ rfl rfl rfl rfl rfl (by kernel_rfl) Try.func3 (by kernel_rfl)
    (of_decide_eq_true (by kernel_rfl)) (by unfold Func.isWrapper; first | (rw [if_pos (by decide +kernel)]; kernel_rfl) | (rw [if_neg (by decide +kernel)]; exact ⟨rfl, rfl⟩))
    (fun os started H enc _ => WaitEndsLift.lifted os started H enc)
end Go.Proofs.Ythkpeddgcglpcaa
