/- A region that draws its order, whose operations read and whose calls may make memory, walked once in the order of the text: by the library's theorem on quiet regions, at the class of the worlds that are more than the first. No condition. -/
import Derived.Test.YtgaalahlkllkaaaMore
import Derived.Deep.QuietTactic
import Derived.BigQuiet
namespace Go.Proofs.Ytgaalahlkllkaaa
open Go.RowKit

/-- How much more a world is: so many draws, these blocks. -/
structure MoreBy where
  n : Nat
  es : Array Obj
instance : Inhabited MoreBy := ⟨⟨0, #[]⟩⟩

theorem wp_region_quiet_more {P : Program} {id : Nat} {Q : Exit → Act → World → Prop} {a : Act} {w : World} {l : List Oper} (hm : P.follows .mixedOrders = true) (hB : Region.lexB .any l.toArray = true)
    (h : wpQuiet P l.toArray (fun w' => ∃ p : MoreBy, w' = more w p.n p.es) (fun a' => ∀ w', (∃ p : MoreBy, w' = more w p.n p.es) → Q .normal a' w') l a) : (Code.region id l.toArray true).wp P Q a w :=
  wp_region_quiet (C := fun w' => ∃ p : MoreBy, w' = more w p.n p.es) hm hB ⟨⟨w.drawn + 1, #[]⟩, by simp [more]⟩ (by simpa using h)

/-- A callee's contract, met in a world of the class. -/
theorem Calls.more_of {P : Program} {f : FuncId} {args : Array Value} {w : World} {n : Nat} {es : Array Obj} {v : Value}
    (h : Calls P f args (more w n es) fun e w' => e = .returned v ∧ Below (more w n es).heap.size (more w n es) w') : Calls P f args (more w n es) fun e w'' => e = .returned v ∧ ∃ p : MoreBy, w'' = more w p.n p.es :=
  h.mono fun _ _ ⟨he, hb⟩ => ⟨he, by obtain ⟨m, fs, rfl⟩ := below_more hb; exact ⟨⟨m, es ++ fs⟩, more_more ..⟩⟩
theorem Calls.more_bool {P : Program} {f : FuncId} {args : Array Value} {w : World} {n : Nat} {es : Array Obj} {b : Bool} (c : Bool) (hc : b = c)
    (h : Calls P f args (more w n es) fun e w' => e = .returned (.bool b) ∧ Below (more w n es).heap.size (more w n es) w') : Calls P f args (more w n es) fun e w'' => e = .returned (.bool c) ∧ ∃ p : MoreBy, w'' = more w p.n p.es := by
  subst hc; exact Calls.more_of h
theorem Calls.more_same_bool {P : Program} {f : FuncId} {args : Array Value} {w : World} {n : Nat} {es : Array Obj} {b : Bool} (c : Bool) (hc : b = c)
    (h : Calls P f args (more w n es) fun e w' => e = .returned (.bool b) ∧ more w n es = w') : Calls P f args (more w n es) fun e w'' => e = .returned (.bool c) ∧ ∃ p : MoreBy, w'' = more w p.n p.es := by
  subst hc; exact h.mono fun _ _ ⟨he, hw⟩ => ⟨he, ⟨n, es⟩, hw.symm⟩
theorem Calls.more_same_int {P : Program} {f : FuncId} {args : Array Value} {w : World} {n : Nat} {es : Array Obj} {b : Int} (c : Int) (hc : b = c)
    (h : Calls P f args (more w n es) fun e w' => e = .returned (.int .i64 b) ∧ more w n es = w') : Calls P f args (more w n es) fun e w'' => e = .returned (.int .i64 c) ∧ ∃ p : MoreBy, w'' = more w p.n p.es := by
  subst hc; exact h.mono fun _ _ ⟨he, hw⟩ => ⟨he, ⟨n, es⟩, hw.symm⟩
theorem Calls.more_same {P : Program} {f : FuncId} {args : Array Value} {w : World} {n : Nat} {es : Array Obj} {v : Value}
    (h : Calls P f args (more w n es) fun e w' => e = .returned v ∧ more w n es = w') : Calls P f args (more w n es) fun e w'' => e = .returned v ∧ ∃ p : MoreBy, w'' = more w p.n p.es :=
  h.mono fun _ _ ⟨he, hw⟩ => ⟨he, ⟨n, es⟩, hw.symm⟩
end Go.Proofs.Ytgaalahlkllkaaa
