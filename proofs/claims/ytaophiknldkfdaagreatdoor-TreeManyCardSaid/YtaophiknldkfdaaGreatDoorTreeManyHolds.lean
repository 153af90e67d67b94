/- TreeMany returns true for every input, and its argument reads afterwards as before; the three tables of the library that its text names are tied to the program's text. No condition. -/
import Derived.Test.YtaophiknldkfdaaGreatDoorTreeMy
import Derived.Test.YtaophiknldkfdaaGreatDoorTreeMq1
import Derived.Test.YtaophiknldkfdaaGreatDoorTreeMq3
import Derived.Test.YtaophiknldkfdaaGreatDoorTreeMq5
import Derived.Test.YtaophiknldkfdaaGreatDoorTreeMq7
import Derived.Test.YtaophiknldkfdaaGreatDoorTreeOp
import Derived.SevenTiedAt
namespace Go.Proofs.YtaophiknldkfdaaGreatDoor
open Go.ChangeShapes Go.WideShapes Go.ChangeAt Go.RowKit
namespace TreeManyLift

theorem many_all : ∀ j, j < 80 → manyQ KM keyM noM (20 + 13 * j % 80) (byM (j % 5)) = true := by
  intro j hj
  by_cases h1 : j < 10
  · exact many_t0 j (Nat.zero_le j) h1
  by_cases h2 : j < 20
  · exact many_t1 j (by omega) h2
  by_cases h3 : j < 30
  · exact many_t2 j (by omega) h3
  by_cases h4 : j < 40
  · exact many_t3 j (by omega) h4
  by_cases h5 : j < 50
  · exact many_t4 j (by omega) h5
  by_cases h6 : j < 60
  · exact many_t5 j (by omega) h6
  by_cases h7 : j < 70
  · exact many_t6 j (by omega) h7
  exact many_t7 j (by omega) hj

set_option maxRecDepth 100000 in
theorem contract {H : Type} {enc : TypeId × Value → H} (W : World) {base : Nat} (v : Value) (d : DataW H) (p : List MemPlace)
    (hv : Value.okWide Tryz.prog W .any base 28 v) (h : DataW.Trod enc Tryz.prog W 0 (fun _ => true) true 28 v d p) (hsz : Sized Tryz.prog 28 d) :
    Calls Tryz.prog 3 #[v] W fun e w' => e = .returned (.bool true) ∧ Below W.heap.size W w' := by
  obtain ⟨nv, rv, fv, av, N, L, rfl, hn, hf, ha, hl⟩ := script_open hv h hsz
  exact treeMany_any W nv rv fv av N L hn hf ha hl many_all

set_option maxRecDepth 100000 in
theorem lifted (os : Os) (started : os.Started) (H : Type) (enc : TypeId × Value → H) :
    ReturnsInHanded {} Tryz.checked os 3 .any (fun w args => (Rows.treeManySpec.pre enc Tryz.prog Tryz.f3 [] false w args ∧ laidMetH Tryz.prog laids w) ∧ sizedMet enc Tryz.prog Tryz.f3 (OpenSpec.ofChange Rows.treeManySpec) false w args) (Rows.treeManySpec.post enc Tryz.prog Tryz.f3 false true false false) := by
  refine returnsInHanded_of_change_and (C := Tryz.checked) (X := fun w _ => laidMetH Tryz.prog laids w) (fun _ _ _ hh h => h.of_heap hh) own started (by kernel_rfl) Tryz.func3
    (ChangeSpec.witness_shaped (enc := enc) (C := Tryz.checked) (os := os) (X := fun w _ => laidMetH Tryz.prog laids w) false (World.doorLaid Tryz.prog 24 os) #[.agg #[.slice none 0 0, .int .i64 0, .slice none 0 0, .slice none 0 0]] 8 rfl (World.shaped_of_RefB (by kernel_rfl) (by kernel_rfl)) (by kernel_rfl) (by kernel_rfl) (by kernel_rfl) (door_met os _)) ?_
  intro W base args ds gs before hval0 hW _ hz hL _
  have hval : ∀ (j : Nat) t v, Tryz.f3.params[j]? = some t → args[j]? = some v → Value.okWide Tryz.prog W .any base t v := hval0
  have hW' := hW
  obtain ⟨p, q, hA0, hV, rfl, _, _⟩ := hW
  have hA : DataW.TrodAll enc Tryz.prog W 0 (fun _ => true) true Tryz.f3.params.toList args.toList ds p := hA0
  rw [Tryz.params3] at hA hval
  obtain ⟨v0, d0, rfl, rfl, h0⟩ := trodAll_one hA
  obtain ⟨rfl, rfl⟩ := trodVars_none hV
  have h0k := h0
  have hsz : Sized Tryz.prog 28 d0 := fun n hn => by simpa using List.all_eq_true.1 hz _ (DataW.weights_mem_each (j := 0) (t := 28) rfl rfl n hn)
  clear hA0 hval0
  simp only [List.append_nil] at hW'
  have hlt : ∀ x ∈ p, x.block < W.heap.size := fun x hx => by simpa using hW'.lt x hx
  have fin : ∀ W' : World, Below W.heap.size W W' → Rows.treeManySpec.post enc Tryz.checked.prog Tryz.f3 false true false false W #[v0] (.bool true) W' := by
    intro W' hnx
    refine ⟨_, _, _, [] , p, [], hW', ?_, ?_, rfl, hnx.frame _, fun h => by cases h⟩
    · exact trodAll_mk1 (shut_bool Tryz.underlying4 true)
    · exact trodAll_mk1 (Below.trod laidOut (by kernel_rfl) (of_decide_eq_true (by kernel_rfl)) h0k hnx hlt)
  refine (contract W v0 d0 p (hval 0 28 v0 rfl rfl) h0 hsz).mono fun e W' ⟨he, hb⟩ => ?_
  subst he
  exact ⟨_, rfl, fin W' hb⟩
end TreeManyLift

theorem treeMany_holds : Rows.TreeManySaid :=
  OpenClaim.holds_of_wide 3 Tryz.f3 rfl rfl rfl rfl rfl rfl rfl ⟨rfl, rfl, rfl, rfl, rfl⟩ rfl rfl rfl rfl rfl (by kernel_rfl) Tryz.func3 (by kernel_rfl)
    (of_decide_eq_true (by kernel_rfl)) (by unfold Func.isWrapper; first | (rw [if_pos (by decide +kernel)]; kernel_rfl) | (rw [if_neg (by decide +kernel)]; exact ⟨rfl, rfl⟩))
    (fun os started H enc _ => TreeManyLift.lifted os started H enc)
theorem treeMany_holds_card : Rows.TreeManyCardSaid :=
  Claim7.holds_tied_plain_at .later [] [.data, .data, .data] true (true, "8524888428539b39de7dad6f92b27b0c5d54dfddca2167de178f0ee963faae52") false
    treeMany_holds (fun _ h => by cases h) (by kernel_rfl) (fun _ h => by cases h) treeMany_row_tie rfl ⟨rfl, rfl⟩ (by kernel_rfl) rfl
    (fun f fn hf hfn => by
      obtain rfl : f = 3 := Option.some.inj ((show Tryz.prog.funcNamed "quorum/quorumlaw6.TreeMany" = some 3 by kernel_rfl).symm.trans hf) |>.symm
      obtain rfl : fn = Tryz.f3 := (Option.some.inj (Tryz.func3.symm.trans hfn)).symm
      exact ⟨by kernel_rfl, fun j t ht => by
        rw [Tryz.params3] at ht
        have hm : t ∈ [28] := by simpa using Array.mem_of_getElem? ht
        have hall : ([28].all fun u => !Tryz.prog.wantsStandIn u) = true := by kernel_rfl
        exact (show Tryz.prog.wantsStandIn t = false by simpa using List.all_eq_true.1 hall t hm)⟩)
    (by kernel_rfl)
end Go.Proofs.YtaophiknldkfdaaGreatDoor
