/- A region that draws its order, in a round of a range over a function: by the plain walk. No condition. -/
import Derived.Test.YtaophiknldkfdaaGreatDoorWPlain
import Derived.RangeFuncNested
import Derived.OwnWalkIn
namespace Go.Proofs.YtaophiknldkfdaaGreatDoor
open Go.RowKit

section
variable {P : Program} {l n : Nat} {C : World → Prop} {ops : Array Oper} {md : Region.Mode}
theorem wpInR_of_quiet {o : Oper} {a : Act} {K : Act → Prop} {K' : Act → World → Prop} {Q' : Exit → Act → World → Prop} {w : World} (hop : ∀ c, o.op ≠ .defer c) (hw : C w) (h : ∀ a w', C w' → K a → K' a w') (hh : o.quiet P a C K) : o.wpIn (Fence.wide.inRound l) n P a w K' Q' := by
  obtain ⟨v, h1, h2⟩ := hh
  have h3 := h1 w hw
  unfold Oper.quietAt at h3
  unfold Oper.wpIn
  refine ⟨fun _ _ => trivial, ?_⟩
  rw [Oper.semAt_plain _ _ _ hop]
  generalize (execOp a.eval o).run P w = r at *
  cases r with
  | ok x w' =>
    cases x <;> simp only [Oper.quietUpon] at h3 <;> simp only [Oper.uponIn]
    case value u =>
      obtain ⟨e1, e2⟩ := h3
      rw [e1, e2]
      exact h _ _ hw h2
    case skip =>
      obtain ⟨e1, e2⟩ := h3
      rw [e1, ← e2]
      exact h _ _ hw h2
    case enter f args =>
      obtain ⟨e1, hc⟩ := h3
      rw [e1]
      exact ⟨fun hd => by simp [Fence.wide] at hd, CallsIn.inRound l (callsIn_wide.2 (hc.mono fun e w'' ⟨he, hw''⟩ => by subst he; exact h _ _ hw'' h2))⟩
  | halt x w' => simp only [Oper.quietUpon] at h3
theorem wpOpInR_of_qOp (hops : ∀ o ∈ ops, ∀ c, o.op ≠ .defer c) {i : Nat} {a : Act} {K : Act → Prop} {K' : Act → World → Prop} {Q' : Exit → Act → World → Prop} {w : World} (hC : C w) (h : ∀ a w', C w' → K a → K' a w') (hh : qOp P ops C i K a) : wpOpIn (Fence.wide.inRound l) n P ops Q' i K' a w := by
  unfold qOp at hh
  unfold wpOpIn
  split
  · rename_i ho; simp only [ho] at hh; exact h _ _ hC hh
  · rename_i o ho
    simp only [ho] at hh
    split
    · rename_i hw; simp only [hw, if_true] at hh; exact wpInR_of_quiet (hops o (Array.mem_of_getElem? ho)) hC h hh
    · rename_i hw; simp only [hw] at hh; exact ⟨fun _ _ => trivial, h _ _ hC hh⟩
theorem wpAnyInR_of_quiet (hops : ∀ o ∈ ops, ∀ c, o.op ≠ .defer c) {Q : Act → Prop} {Q' : Exit → Act → World → Prop} (hQ : ∀ a w, C w → Q a → Q' .normal a w) : ∀ (fuel : Nat) (listed : Array Bool) (a : Act) (w : World), C w →
    wpAnyQ P md ops C Q fuel listed a → wpAnyIn (Fence.wide.inRound l) n P md ops Q' fuel listed a w
  | 0, _, _, _, hw, h => ⟨h.1, hQ _ _ hw h.2⟩
  | fuel + 1, _, _, _, hw, h => ⟨fun h0 => hQ _ _ hw (h.1 h0), fun i hi => wpOpInR_of_qOp hops hw (fun a' w' hw' => wpAnyInR_of_quiet hops hQ fuel _ a' w' hw') (h.2 i hi)⟩
theorem wpInR_region_quiet {id : Nat} {Q : Exit → Act → World → Prop} {a : Act} {w : World} (hops : ∀ o ∈ ops, ∀ c, o.op ≠ .defer c) (hm : P.follows .mixedOrders = true) (hB : Region.lexB .any ops = true) (hC : C { w with drawn := w.drawn + 1 })
    (h : wpQuiet P ops C (fun a' => ∀ w', C w' → Q .normal a' w') ops.toList a) : (Code.region id ops true).wpIn (Fence.wide.inRound l) n P Q a w := by
  simp only [Region.lexB, Bool.and_eq_true] at hB
  refine wpIn_region_any hm (wpAnyInR_of_quiet hops (Q := fun a' => ∀ w', C w' → Q .normal a' w') (fun _ w' hw' h => h w' hw') _ _ _ _ hC ?_)
  have := wpAnyQ_lex (C := C) (md := .any) hB.1 ops.toList 0 (Array.replicate ops.size false) a (by simp) (by simpa using hB.2) h
  simpa using this
end
theorem wpInR_region_more {P : Program} {l n : Nat} {id : Nat} {Q : Exit → Act → World → Prop} {a : Act} {w : World} {ops : List Oper} (hops : ops.all (fun o => match o.op with | .defer _ => false | _ => true) = true) (hm : P.follows .mixedOrders = true) (hB : Region.lexB .any ops.toArray = true)
    (h : wpQuiet P ops.toArray (fun w' => ∃ p : MoreBy, w' = more w p.n p.es) (fun a' => ∀ w', (∃ p : MoreBy, w' = more w p.n p.es) → Q .normal a' w') ops a) : (Code.region id ops.toArray true).wpIn (Fence.wide.inRound l) n P Q a w :=
  wpInR_region_quiet (C := fun w' => ∃ p : MoreBy, w' = more w p.n p.es) (fun o ho c e => by
    have h2 := List.all_eq_true.1 hops o (by simpa using ho)
    rw [e] at h2
    cases h2) hm hB ⟨⟨w.drawn + 1, #[]⟩, by simp [more]⟩ (by simpa using h)
end Go.Proofs.YtaophiknldkfdaaGreatDoor
/- A range over a function whose rounds come in a known order and all go on: what the caller owes. No condition. -/
namespace Go.Proofs.YtaophiknldkfdaaGreatDoor
open Go.RowKit

/-- An iterator that calls its loop body N times, at the k-th round with the values encs k. -/
def Goes (F : Fence) (n : Nat) (P : Program) (gf : Nat) (lb : Array Value) (encs : Nat → Array Value) (Kp : World → World → Prop) (N : Nat) (w0 : World) : Prop :=
  ∀ (l : Nat) (J : Nat → World → Prop) (W : World), Below w0.heap.size w0 W →
    (∀ k W1, k < N → J k W1 → YieldAt F (n - 1) P l (encs k) W1 fun e W' => e = .returned (.bool true) ∧ J (k + 1) W' ∧ Kp W1 W') → J 0 W →
    CallsIn F n P gf (#[.func (.yield l) #[] #[]] ++ lb) W fun e W' => (∃ v, e = .returned v) ∧ J N W'
theorem wpIn_goes {F : Fence} {n : Nat} {P : Program} {g : Operand} {ps : Array Tmp} {assign body : Code} {Q : Exit → Act → World → Prop} {a : Act} {w : World} (hro : F.round = none) (h1 : 1 ≤ n) {gf : Nat} {lb : Array Value} (hg : a.eval g = .func (.func gf) #[] lb) (hFg : F.fn gf) (eg : ∀ args w, (callFunc gf args).run P w = .ok (.enter gf args) w)
    {encs : Nat → Array Value} {Kp : World → World → Prop} {N : Nat} {w0 : World} (hseq : Goes F (n - 1) P gf lb encs Kp N w0) (hKt : ∀ {A B C : World}, Kp A B → Kp B C → Kp A C) (hKb : ∀ (W : World) (l : Nat) (o o' : Obj), w.heap.size ≤ l → W.heap[l]? = some o → o.isCells = false → o.isWalk = false → Kp W (W.putObj l o'))
    (hb0 : Below w0.heap.size w0 w) (hps : ∀ k, (encs k).size = ps.size)
    (I : Nat → World → Prop) (hI : ∀ k W l o o', I k W → w.heap.size ≤ l → W.heap[l]? = some o → o.isCells = false → I k (W.putObj l o')) (h0 : ∀ o1 o2, I 0 ((w.alloc o1).alloc o2))
    (M : Nat → Act → World → Prop) (hM : ∀ k a W l o o', M k a W → w.heap.size ≤ l → W.heap[l]? = some o → o.isCells = false → M k a (W.putObj l o'))
    (hassign : ∀ (l k : Nat) (W : World) (K : Act → World → Prop), k < N → I k W → (∀ a' W', KeepsFrom w.heap.size W W' → Kp W W' → M k a' W' → K a' W') → assign.wpIn (F.inRound l) (n - 1 - 1) P (Exit.then K (fun _ _ _ => False)) { tmps := (ps.zip (encs k)).foldl (fun t (p, v) => t.setIfInBounds p v) a.tmps, defers := [] } W)
    (hbody : ∀ (l k : Nat) (a' : Act) (W : World), k < N → M k a' W → body.wpIn (F.inRound l) (n - 1 - 1) P (fun e _ W' => e = .normal ∧ KeepsFrom w.heap.size W W' ∧ Kp W W' ∧ I (k + 1) W') a' W)
    (hdone : ∀ (D : Nat) (W : World), w.heap.size ≤ D → I N W → W.heap[D]? = some (.deferred (some [])) → Q .normal { a with defers := { target := .collected D, args := #[] } :: a.defers } W) :
    (Code.rangeFunc g ps assign body).wpIn F n P Q a w := by
  refine wpIn_rangeFunc fun fn hfn => ?_
  rw [hro]
  obtain ⟨L, hL⟩ : ∃ L : LoopState → Loop, L = fun st => { state := st, pending := none, fn, tmps := a.tmps, params := ps, assign, body, defers := w.heap.size } := ⟨_, rfl⟩
  have hsz : ((w.alloc (.deferred (some []))).alloc (.loop (L .ready))).heap.size = w.heap.size + 2 := by simp
  have hdef : ((w.alloc (.deferred (some []))).alloc (.loop (L .ready))).heap[w.heap.size]? = some (.deferred (some [])) := (Below.heap_alloc _ _ _ (by simp)).trans (World.alloc_heap_new w _)
  have hloop : ((w.alloc (.deferred (some []))).alloc (.loop (L .ready))).heap[w.heap.size + 1]? = some (.loop (L .ready)) := by
    have := World.alloc_heap_new (w.alloc (.deferred (some []))) (.loop (L .ready))
    rwa [World.size_alloc] at this
  have hbel : Below w0.heap.size w0 ((w.alloc (.deferred (some []))).alloc (.loop (L .ready))) := hb0.trans ((nw_alloc (nw_alloc (Below.refl _ _) _) _).mono hb0.size)
  refine ⟨w.heap.size + 1, [{ target := .collected w.heap.size, args := #[] }], (w.alloc (.deferred (some []))).alloc (.loop (L .ready)), { target := .fn (.func gf) lb, args := #[.func (.yield (w.heap.size + 1)) #[] #[]] }, (w.alloc (.deferred (some []))).alloc (.loop (L .ready)), gf,
    #[.func (.yield (w.heap.size + 1)) #[] #[]] ++ lb, (w.alloc (.deferred (some []))).alloc (.loop (L .ready)), ?_, ?_, ?_, ?_, fun _ => h1, ?_⟩
  · rw [hL]; exact run_enterLoop_outer _ _ _ _ _
  · simp only [resolve, hg]
    simp [go_sem]
  · intro f' hf'
    simp [Target.leads] at hf'
    subst hf'
    exact hFg
  · simp [invoke, go_sem, eg]
  · refine (hseq (w.heap.size + 1) (fun k W => I k W ∧ W.heap[w.heap.size + 1]? = some (.loop (L .ready)) ∧ W.heap[w.heap.size]? = some (.deferred (some []))) _ hbel ?_ ⟨h0 _ _, hloop, hdef⟩).mono ?_
    · rintro k W hk ⟨hi, hl, hd⟩
      have hy := run_yield (P := P) (args := encs k) hl (by rw [hL]; exact hps k)
      rw [hL] at hy
      refine ⟨fn, _, assign, body, hy, roundIn_of_wpIn hfn (hassign _ k W _ hk hi fun a' Wa hf hkp hm => ?_)⟩
      have hl1 := hf.same _ _ (Nat.le_succ _) hl rfl
      have hd1 := hf.same _ _ (Nat.le_refl _) hd rfl
      have hlt1 := (Array.getElem?_eq_some_iff.1 hl1).1
      refine ⟨_, run_beginRound hl1 (by rw [hL]), wpIn_mono (hbody _ k a' _ hk (hM _ _ _ _ _ _ hm (Nat.le_succ _) hl1 rfl)) ?_⟩
      rintro e a3 W3 ⟨rfl, hf3, hkp3, hi3⟩
      have hl2 : (Wa.putObj (w.heap.size + 1) (.loop { L .ready with state := .busy })).heap[w.heap.size + 1]? = some (.loop { L .ready with state := .busy }) := World.putObj_heap_same hlt1
      have hd2 : (Wa.putObj (w.heap.size + 1) (.loop { L .ready with state := .busy })).heap[w.heap.size]? = some (.deferred (some [])) := (World.putObj_heap_other (by omega)).trans hd1
      have hl3 := hf3.same _ _ (Nat.le_succ _) hl2 rfl
      have hd3 := hf3.same _ _ (Nat.le_refl _) hd2 rfl
      have hlt3 := (Array.getElem?_eq_some_iff.1 hl3).1
      have he := run_endRound (P := P) none hl3
      have hback : ({ { L .ready with state := .busy } with state := if (none : Option Code).isNone then LoopState.ready else LoopState.done, pending := none } : Loop) = L .ready := by rw [hL]; rfl
      rw [hback] at he
      exact ⟨_, _, he, rfl, ⟨hI _ _ _ _ _ hi3 (Nat.le_succ _) hl3 rfl, World.putObj_heap_same hlt3, (World.putObj_heap_other (by omega)).trans hd3⟩, hKt hkp (hKt (hKb _ _ _ _ (Nat.le_succ _) hl1 rfl rfl) (hKt hkp3 (hKb _ _ _ _ (Nat.le_succ _) hl3 rfl rfl)))⟩
    · rintro e W2 ⟨⟨v, rfl⟩, hi, hl, hd⟩
      have he := run_endLoop (P := P) hl (by rw [hL]; simp)
      have hp : (L .ready).pending = none := by rw [hL]
      rw [hp] at he
      exact ⟨none, _, he, hdone _ _ (Nat.le_refl _) (hI _ _ _ _ _ hi (Nat.le_succ _) hl rfl) ((World.putObj_heap_other (by omega)).trans hd)⟩
end Go.Proofs.YtaophiknldkfdaaGreatDoor
/- A region that draws its order, reads, calls one function that changes memory, and stores at its end: walked once in the order of the text. No condition. -/
namespace Go.Proofs.YtaophiknldkfdaaGreatDoor
open Go.RowKit

/-- Operations that enter no function and leave the world as it is, where they yield. -/
def plainOp : Op → Bool
  | .move _ | .assign _ | .fieldAddr .. | .indexAddr .. | .load .. | .binOp .. | .unOp .. | .nilCheck _ | .build .. | .field .. | .extract .. | .index .. => true
  | _ => false
theorem andThen_ne {α : Type} (r : Result α) (g : α → World → Result Next) {f : FuncId} {args : Array Value} {w : World} (h : ∀ a w', g a w' ≠ .ok (.enter f args) w) : r.andThen g ≠ .ok (.enter f args) w := by
  cases r with
  | ok a w' => exact h a w'
  | halt x w' => simp [Result.andThen]
theorem bind_value {P : Program} {α : Type} (s : Sem α) (g : α → Value) (w w' : World) (f : FuncId) (args : Array Value) : (s >>= fun x => (pure (.value (g x)) : Sem Next)).run P w ≠ .ok (.enter f args) w' := by
  rw [Sem.run_bind]
  exact andThen_ne _ _ fun a w1 => by simp
theorem plain_noEnter {P : Program} {ρ : Operand → Value} {o : Oper} (h : plainOp o.op = true) (w w' : World) (f : FuncId) (args : Array Value) : (execOp ρ o).run P w ≠ .ok (.enter f args) w' := by
  unfold execOp
  cases ho : o.op <;> simp only [ho, plainOp, Bool.false_eq_true] at h ⊢
  case nilCheck x =>
    have hp : (runtimePanic .nilDeref : Sem Next).run P w ≠ .ok (.enter f args) w' := by
      unfold runtimePanic
      simp [go_sem]
    split
    · exact hp
    · exact hp
    · exact hp
    · split
      · exact hp
      · rw [Sem.run_bind]
        refine andThen_ne _ _ fun a w1 => ?_
        rw [Sem.run_bind]
        refine andThen_ne _ _ fun b w2 => ?_
        split
        · rw [Sem.run_bind]
          exact andThen_ne _ _ fun c w3 => by simp
        · simp
      · simp
    · simp
  all_goals first | exact bind_value _ _ _ _ _ _ | simp

/-- The slots that an operand reads. -/
def slotB (x : Operand) (t : Tmp) : Bool := match x with
  | .tmp u => u == t
  | _ => false
/-- What the rule asks of the text of the region: no guards; but for the call (number κ) and the store at the end (number ζ) plain operations; what waits waits on what stands ahead; whatever the call reads it waits on. -/
def chkOps (κ ζ : Nat) (xs : Array Operand) (dep : Nat → Bool) : Nat → List Oper → Bool
  | _, [] => true
  | k, o :: r => o.guard.isNone && (k == κ || k == ζ || plainOp o.op) && o.after.all (fun e => decide (e.on < k)) && (match o.dst with
      | none => true
      | some t => dep k || xs.all (fun x => !slotB x t)) && chkOps κ ζ xs dep (k + 1) r
theorem chk_at {κ ζ : Nat} {xs : Array Operand} {dep : Nat → Bool} : ∀ (l : List Oper) (k : Nat), chkOps κ ζ xs dep k l = true → ∀ (i : Nat) (o : Oper), l[i]? = some o →
    o.guard = none ∧ (k + i = κ ∨ k + i = ζ ∨ plainOp o.op = true) ∧ (∀ e ∈ o.after, e.on < k + i) ∧ (∀ t, o.dst = some t → dep (k + i) = true ∨ ∀ x ∈ xs, slotB x t = false)
  | [], _, _, i, o, h => by simp at h
  | p :: r, k, hc, i, o, h => by
    simp only [chkOps, Bool.and_eq_true] at hc
    obtain ⟨⟨⟨⟨h1, h2⟩, h3⟩, h4⟩, h5⟩ := hc
    cases i with
    | zero =>
      obtain rfl : p = o := by simpa using h
      refine ⟨Option.isNone_iff_eq_none.1 h1, by simpa [or_assoc] using h2, fun e he => by simpa using (Array.all_eq_true_iff_forall_mem.1 h3) e he, ?_⟩
      intro t ht
      rw [ht] at h4
      simp only [Bool.or_eq_true] at h4
      rcases h4 with h4 | h4
      · exact .inl (by simpa using h4)
      · exact .inr fun x hx => by simpa using (Array.all_eq_true_iff_forall_mem.1 h4) x hx
    | succ i =>
      have := chk_at r (k + 1) h5 i o (by simpa using h)
      rw [show k + (i + 1) = k + 1 + i by omega]
      exact this
/-- The region with the call's result in the place of the call, and nothing in the place of the store. -/
def opsV (l : List Oper) (κ ζ : Nat) (oκ oζ : Oper) (v : Value) : List Oper := (l.set κ { oκ with op := .move (.const v) }).set ζ { oζ with op := .move (.const undef), dst := none }
theorem put_none (a : Act) (v : Value) : a.put none v = a := rfl

section
variable {P : Program} {ops : Array Oper} {md : Region.Mode} {C : World → Prop}
theorem put_other (a : Act) (t t' : Tmp) (v : Value) (h : t' ≠ t) : (a.put (some t') v).tmps[t]? = a.tmps[t]? := by
  simp [Act.put, h]
/-- From wherever a region stands it can be gone to its end, and what no open operation writes stays. -/
theorem final_of_any {Q : Act → Prop} : ∀ (fuel : Nat) (listed : Array Bool) (a : Act), wpAnyQ P md ops C Q fuel listed a →
    ∃ a', Q a' ∧ ∀ t : Tmp, (∀ i o, ops[i]? = some o → listed.getD i true = false → o.dst ≠ some t) → a'.tmps[t]? = a.tmps[t]?
  | 0, _, a, h => ⟨a, h.2, fun _ _ => rfl⟩
  | fuel + 1, listed, a, h => by
    by_cases hr : Region.ready md ops listed = []
    · exact ⟨a, h.1 hr, fun _ _ => rfl⟩
    · obtain ⟨i, hi⟩ := List.exists_mem_of_ne_nil _ hr
      obtain ⟨hun, o, ho, -⟩ := mem_ready.1 hi
      have h2 := h.2 i hi
      unfold qOp at h2
      simp only [ho] at h2
      have go : ∀ v, wpAnyQ P md ops C Q fuel (listed.setIfInBounds i true) (a.put o.dst v) → ∃ a', Q a' ∧ ∀ t : Tmp, (∀ i o, ops[i]? = some o → listed.getD i true = false → o.dst ≠ some t) → a'.tmps[t]? = a.tmps[t]? := by
        intro v h3
        obtain ⟨a', hq, hs⟩ := final_of_any fuel _ _ h3
        refine ⟨a', hq, fun t ht => ?_⟩
        rw [hs t (fun j p hj hun2 => ht j p hj ?_)]
        · cases hd : o.dst with
          | none => rfl
          | some t' => exact put_other a t t' v (fun e => ht i o ho hun (by rw [hd, e]))
        · by_cases hij : i = j
          · subst hij; exact hun
          · rw [getD_set_ne true hij] at hun2; exact hun2
      split at h2
      · obtain ⟨v, -, h3⟩ := h2; exact go v h3
      · exact go _ h2
theorem opsV_at {l : List Oper} {κ ζ : Nat} {oκ oζ : Oper} (hκ : l[κ]? = some oκ) (hζ : l[ζ]? = some oζ) (hne : κ < ζ) (v : Value) (j : Nat) :
    (opsV l κ ζ oκ oζ v).toArray[j]? = (l[j]?).map (fun o => if j = ζ then { o with op := .move (.const undef), dst := none } else if j = κ then { o with op := .move (.const v) } else o) := by
  have h1 := (List.getElem?_eq_some_iff.1 hκ).1
  have h2 := (List.getElem?_eq_some_iff.1 hζ).1
  unfold opsV
  rw [List.getElem?_toArray, List.getElem?_set, List.getElem?_set]
  by_cases e1 : j = ζ
  · subst e1
    have h5 : l[j] = oζ := by rw [List.getElem?_eq_getElem h2] at hζ; exact Option.some.inj hζ
    simp [h2, h5]
  · by_cases e2 : j = κ
    · subst e2
      have h5 : l[j] = oκ := by rw [List.getElem?_eq_getElem h1] at hκ; exact Option.some.inj hκ
      simp [h1, h5, e1, Ne.symm e1]
    · simp [e1, e2, Ne.symm e1, Ne.symm e2]
theorem opsV_after {l : List Oper} {κ ζ : Nat} {oκ oζ : Oper} (hκ : l[κ]? = some oκ) (hζ : l[ζ]? = some oζ) (hne : κ < ζ) (v : Value) (listed : Array Bool) (j : Nat) :
    j ∈ Region.ready md (opsV l κ ζ oκ oζ v).toArray listed ↔ j ∈ Region.ready md l.toArray listed := by
  rw [mem_ready, mem_ready, opsV_at hκ hζ hne, List.getElem?_toArray]
  refine and_congr_right fun _ => ?_
  cases l[j]? with
  | none => simp
  | some o =>
    simp only [Option.map_some, Option.some.injEq, exists_eq_left']
    split
    · rfl
    · split <;> rfl
theorem ready_ne {listed : Array Bool} (hacy : ∀ (i : Nat) (o : Oper), ops[i]? = some o → ∀ e ∈ o.after, e.on < i) (hsz : listed.size = ops.size) : ∀ i, i < ops.size → listed.getD i true = false → Region.ready md ops listed ≠ [] := by
  intro i
  induction i using Nat.strongRecOn with
  | ind i ih =>
    intro hi hun
    by_cases hall : ∀ e ∈ (ops[i]).after, listed.getD e.on false = true
    · intro h
      have : i ∈ Region.ready md ops listed := mem_ready.2 ⟨hun, ops[i], Array.getElem?_eq_getElem hi, fun e he _ => hall e he⟩
      rw [h] at this
      cases this
    · obtain ⟨e, he, hf⟩ : ∃ e, e ∈ (ops[i]).after ∧ ¬ listed.getD e.on false = true := Classical.byContradiction fun hn => hall fun e he => Classical.byContradiction fun hf => hn ⟨e, he, hf⟩
      have hlt := hacy i _ (Array.getElem?_eq_getElem hi) e he
      refine ih e.on hlt (by omega) ?_
      have hlt2 : e.on < listed.size := by omega
      simp [Array.getD, hlt2] at hf ⊢
      exact hf
theorem phase2 {Q : Exit → Act → World → Prop} {a : Act} {w : World} (hq : Q .normal a w) : ∀ (fuel : Nat) (listed : Array Bool), Region.ready md ops listed = [] → wpAny P md ops Q fuel listed a w
  | 0, _, h => ⟨h, hq⟩
  | _ + 1, _, h => ⟨fun _ => hq, fun i hi => by rw [h] at hi; cases hi⟩
/-- What the rule asks, laid open. -/
structure RegionIs (md : Region.Mode) (l : List Oper) (κ ζ : Nat) (oκ oζ : Oper) (xs : Array Operand) : Prop where
  call : l[κ]? = some oκ
  store : l[ζ]? = some oζ
  ne : κ < ζ
  len : ζ + 1 = l.length
  free : oζ.dst = none
  each : ∀ (i : Nat) (o : Oper), l[i]? = some o → o.guard = none ∧ (i = κ ∨ i = ζ ∨ plainOp o.op = true) ∧ (∀ e ∈ o.after, e.on < i) ∧ (∀ t, o.dst = some t → (∃ e ∈ oκ.after, e.on = i ∧ Region.binds md e = true) ∨ ∀ x ∈ xs, slotB x t = false)
  last : ∀ i : Nat, i < ζ → ∃ e ∈ oζ.after, e.on = i ∧ Region.binds md e = true
theorem wanted_of {o : Oper} (h : o.guard = none) (y : Nat → Option Bool) : Region.wanted o y = true := by simp [Region.wanted, h]

theorem all_listed {l : List Oper} {κ ζ : Nat} {oκ oζ : Oper} {xs : Array Operand} (hR : RegionIs md l κ ζ oκ oζ xs) {listed : Array Bool} (hz : ζ ∈ Region.ready md l.toArray listed) (i : Nat) (hi : i < ζ) : listed.getD i false = true := by
  obtain ⟨-, o, ho, hall⟩ := mem_ready.1 hz
  obtain rfl : o = oζ := by rw [List.getElem?_toArray, hR.store] at ho; exact (Option.some.inj ho).symm
  obtain ⟨e, he, rfl, hb⟩ := hR.last i hi
  exact hall e he hb
theorem done_of {l : List Oper} {κ ζ : Nat} {oκ oζ : Oper} {xs : Array Operand} (hR : RegionIs md l κ ζ oκ oζ xs) {listed : Array Bool} (hz : ζ ∈ Region.ready md l.toArray listed) : Region.ready md l.toArray (listed.setIfInBounds ζ true) = [] := by
  refine List.eq_nil_iff_forall_not_mem.2 fun j hj => ?_
  obtain ⟨hun, o, ho, -⟩ := mem_ready.1 hj
  have hjl : j < l.length := by
    have := (Array.getElem?_eq_some_iff.1 ho).1
    simpa using this
  by_cases e : ζ = j
  · subst e
    rcases Nat.lt_or_ge ζ listed.size with h | h
    · simp [Array.getD, h] at hun
    · simp [Array.getD, Nat.not_lt.2 h] at hun
  · rw [getD_set_ne true e] at hun
    have := all_listed hR hz j (by have := hR.len; omega)
    rcases Nat.lt_or_ge j listed.size with h | h
    · simp [Array.getD, h] at hun this; rw [hun] at this; cases this
    · simp [Array.getD, Nat.not_lt.2 h] at this
/-- A plain operation, quiet in a class: one value, the world as it is. -/
theorem plain_run {o : Oper} {a : Act} {w : World} {v : Value} (hp : plainOp o.op = true) (h : o.quietAt P a C w v) : (execOp a.eval o).run P w = .ok (.value v) w ∨ (v = undef ∧ (execOp a.eval o).run P w = .ok .skip w) := by
  unfold Oper.quietAt at h
  cases hr : (execOp a.eval o).run P w with
  | ok n w' =>
    rw [hr] at h
    cases n <;> simp only [Oper.quietUpon] at h
    case value u => obtain ⟨rfl, rfl⟩ := h; exact .inl rfl
    case skip => obtain ⟨rfl, rfl⟩ := h; exact .inr ⟨rfl, rfl⟩
    case enter f args => exact absurd hr (plain_noEnter hp w w' f args)
  | halt x w' =>
    rw [hr] at h
    simp only [Oper.quietUpon] at h
theorem wp_of_run {o : Oper} {a : Act} {w : World} {v : Value} {K : Act → World → Prop} {Q : Exit → Act → World → Prop} (h : (execOp a.eval o).run P w = .ok (.value v) w ∨ (v = undef ∧ (execOp a.eval o).run P w = .ok .skip w)) (hk : K (a.put o.dst v) w) : o.wp P a w K Q := by
  unfold Oper.wp
  rcases h with h | ⟨rfl, h⟩
  · rw [h]; exact hk
  · rw [h]; exact hk
/-- What is left of an operation that comes up. -/
theorem quiet_at {i : Nat} {o : Oper} {a : Act} {K : Act → Prop} {ops' : Array Oper} (ho : ops'[i]? = some o) (hg : o.guard = none) (h : qOp P ops' C i K a) : ∃ v, (∀ w, C w → o.quietAt P a C w v) ∧ K (a.put o.dst v) := by
  unfold qOp at h
  simp only [ho, wanted_of hg, if_true] at h
  exact h
theorem phase1 {l : List Oper} {κ ζ : Nat} {oκ oζ : Oper} {xs : Array Operand} (hR : RegionIs md l κ ζ oκ oζ xs) {Q : Exit → Act → World → Prop} {v : Value} {w6 : World} (hC : C w6) (Q1 : Act → Prop) (hQ1 : ∀ a, Q1 a → ∃ wF, (execOp a.eval oζ).run P w6 = .ok .skip wF ∧ Q .normal a wF) :
    ∀ (fuel : Nat) (listed : Array Bool) (a : Act), listed.size = l.length → listed.getD κ true = true → listed.getD ζ true = false → wpAnyQ P md (opsV l κ ζ oκ oζ v).toArray C Q1 fuel listed a → wpAny P md l.toArray Q fuel listed a w6 := by
  intro fuel
  have hlz : ζ < l.length := by have := hR.len; omega
  have hnr : ∀ listed : Array Bool, listed.size = l.length → listed.getD ζ true = false → Region.ready md l.toArray listed ≠ [] := fun listed hs hz => ready_ne (fun i o h e he => (hR.each i o (by simpa using h)).2.2.1 e he) (by simpa using hs) ζ (by simpa using hlz) hz
  have hemp : ∀ listed : Array Bool, Region.ready md (opsV l κ ζ oκ oζ v).toArray listed = [] → Region.ready md l.toArray listed = [] := fun listed h => List.eq_nil_iff_forall_not_mem.2 fun j hj => by
    rw [← opsV_after hR.call hR.store hR.ne v] at hj; rw [h] at hj; cases hj
  have hemp2 : ∀ listed : Array Bool, Region.ready md l.toArray listed = [] → Region.ready md (opsV l κ ζ oκ oζ v).toArray listed = [] := fun listed h => List.eq_nil_iff_forall_not_mem.2 fun j hj => by
    rw [opsV_after hR.call hR.store hR.ne v] at hj; rw [h] at hj; cases hj
  induction fuel with
  | zero =>
    intro listed a hs _ hz h
    exact absurd (hemp _ h.1) (hnr listed hs hz)
  | succ fuel ih =>
    intro listed a hs hk hz h
    refine ⟨fun h0 => absurd h0 (hnr listed hs hz), fun i hi => ?_⟩
    have h2 := h.2 i ((opsV_after hR.call hR.store hR.ne v listed i).2 hi)
    obtain ⟨hun, o, ho, -⟩ := mem_ready.1 hi
    rw [List.getElem?_toArray] at ho
    obtain ⟨hg, hcase, -, -⟩ := hR.each i o ho
    have hat := opsV_at hR.call hR.store hR.ne v i
    rw [ho, Option.map_some] at hat
    unfold wpOp
    simp only [List.getElem?_toArray, ho, wanted_of hg, if_true]
    left
    by_cases ez : i = ζ
    · subst ez
      obtain rfl : o = oζ := by rw [hR.store] at ho; exact (Option.some.inj ho).symm
      rw [if_pos rfl] at hat
      obtain ⟨u, -, hK⟩ := quiet_at hat hg h2
      rw [put_none] at hK
      have hd := done_of hR hi
      have hq : Q1 a := by
        cases fuel with
        | zero => exact hK.2
        | succ f => exact hK.1 (hemp2 _ hd)
      obtain ⟨wF, hr, hq2⟩ := hQ1 a hq
      unfold Oper.wp
      rw [hr]
      show wpAny P md l.toArray Q fuel (listed.setIfInBounds i true) (a.put o.dst undef) wF
      rw [hR.free, put_none]
      exact phase2 hq2 _ _ hd
    · have ek : i ≠ κ := fun e => by rw [e, hk] at hun; cases hun
      rw [if_neg ez, if_neg ek] at hat
      have hp : plainOp o.op = true := by
        rcases hcase with h | h | h
        · exact absurd h ek
        · exact absurd h ez
        · exact h
      obtain ⟨u, hu, hK⟩ := quiet_at hat hg h2
      refine wp_of_run (plain_run hp (hu w6 hC)) (ih _ _ (by simpa using hs) ?_ ?_ hK)
      · rw [getD_set_ne true ek]; exact hk
      · rw [getD_set_ne true ez]; exact hz
theorem eval_same {a a' : Act} {x : Operand} (h : ∀ t, slotB x t = true → a'.tmps[t]? = a.tmps[t]?) : a'.eval x = a.eval x := by
  cases x with
  | tmp t =>
    have := h t (by simp [slotB])
    simp only [Act.eval, Array.getD_eq_getD_getElem?, this]
  | const v => rfl
  | global g => rfl
  | func f => rfl
theorem phase0 {l : List Oper} {κ ζ : Nat} {oκ oζ : Oper} {xs : Array Operand} (hR : RegionIs md l κ ζ oκ oζ xs) {Q : Exit → Act → World → Prop} {W0 : World} (hC : C W0) (f : FuncId) (args : Array Value) (hrun : ∀ a : Act, (execOp a.eval oκ).run P W0 = .ok (.enter f (xs.map a.eval)) W0)
    (Post : Value → World → Prop) (hC1 : ∀ v w6, Post v w6 → C w6) (hcall : Calls P f args W0 fun e w' => ∃ v, e = .returned v ∧ Post v w') (Q1 : Value → World → Act → Prop)
    (hQ1 : ∀ v w6 a, Post v w6 → Q1 v w6 a → xs.map a.eval = args ∧ ∃ wF, (execOp a.eval oζ).run P w6 = .ok .skip wF ∧ Q .normal a wF) :
    ∀ (fuel : Nat) (listed : Array Bool) (a : Act), listed.size = l.length → listed.getD κ true = false → listed.getD ζ true = false → (∀ v w6, Post v w6 → wpAnyQ P md (opsV l κ ζ oκ oζ v).toArray C (Q1 v w6) fuel listed a) → wpAny P md l.toArray Q fuel listed a W0 := by
  intro fuel
  have hlk : κ < l.length := by have := hR.len; have := hR.ne; omega
  obtain ⟨e0, w0, fr, ⟨v0, -, hp0⟩, -⟩ := hcall []
  have hnr : ∀ listed : Array Bool, listed.size = l.length → listed.getD κ true = false → Region.ready md l.toArray listed ≠ [] := fun listed hs hz => ready_ne (fun i o h e he => (hR.each i o (by simpa using h)).2.2.1 e he) (by simpa using hs) κ (by simpa using hlk) hz
  have hemp : ∀ (v : Value) (listed : Array Bool), Region.ready md (opsV l κ ζ oκ oζ v).toArray listed = [] → Region.ready md l.toArray listed = [] := fun v listed h => List.eq_nil_iff_forall_not_mem.2 fun j hj => by
    rw [← opsV_after hR.call hR.store hR.ne v] at hj; rw [h] at hj; cases hj
  induction fuel with
  | zero =>
    intro listed a hs hk _ h
    exact absurd (hemp v0 _ (h v0 w0 hp0).1) (hnr listed hs hk)
  | succ fuel ih =>
    intro listed a hs hk hz h
    refine ⟨fun h0 => absurd h0 (hnr listed hs hk), fun i hi => ?_⟩
    have h2 := fun v w6 hp => (h v w6 hp).2 i ((opsV_after hR.call hR.store hR.ne v listed i).2 hi)
    obtain ⟨hun, o, ho, hdeps⟩ := mem_ready.1 hi
    rw [List.getElem?_toArray] at ho
    obtain ⟨hg, hcase, -, -⟩ := hR.each i o ho
    have hat := fun v => opsV_at hR.call hR.store hR.ne v i
    simp only [ho, Option.map_some] at hat
    have ez : i ≠ ζ := fun e => by
      subst e
      have := all_listed hR hi κ hR.ne
      have hlt : κ < listed.size := by omega
      simp [Array.getD, hlt] at this hk
      rw [hk] at this; cases this
    unfold wpOp
    simp only [List.getElem?_toArray, ho, wanted_of hg, if_true]
    left
    by_cases ek : i = κ
    · subst ek
      obtain rfl : o = oκ := by rw [hR.call] at ho; exact (Option.some.inj ho).symm
      have hargs : xs.map a.eval = args := by
        obtain ⟨a', hq, hsame⟩ := final_of_any _ _ _ (h v0 w0 hp0)
        rw [← (hQ1 v0 w0 a' hp0 hq).1]
        refine Array.map_congr_left fun x hx => (eval_same fun t ht => hsame t fun j p hj hjun hd => ?_).symm
        rw [opsV_at hR.call hR.store hR.ne, Option.map_eq_some_iff] at hj
        obtain ⟨q, hq1, hq2⟩ := hj
        have hqd : q.dst = some t := by
          by_cases e1 : j = ζ
          · rw [if_pos e1] at hq2; subst hq2; cases hd
          · rw [if_neg e1] at hq2
            by_cases e2 : j = i
            · rw [if_pos e2] at hq2; subst hq2; exact hd
            · rw [if_neg e2] at hq2; subst hq2; exact hd
        rcases (hR.each j q hq1).2.2.2 t hqd with ⟨e, he, e1, hb⟩ | h9
        · have h8 := hdeps e he hb
          rw [e1] at h8
          have hlt : j < listed.size := by rw [hs]; exact (List.getElem?_eq_some_iff.1 hq1).1
          simp [Array.getD, hlt] at h8 hjun
          rw [hjun] at h8; cases h8
        · rw [h9 x hx] at ht; cases ht
      unfold Oper.wp
      rw [hrun a, hargs]
      refine hcall.mono ?_
      rintro e w6 ⟨v, rfl, hp⟩
      have hat2 := hat v
      rw [if_neg ez, if_pos rfl] at hat2
      obtain ⟨u, hu, hK⟩ := quiet_at hat2 hg (h2 v w6 hp)
      obtain rfl : v = u := by
        have := hu W0 hC
        unfold Oper.quietAt execOp at this
        simp only [Sem.run_pure, Oper.quietUpon] at this
        exact this.2
      refine phase1 hR (hC1 v w6 hp) (Q1 v w6) (fun a hq => (hQ1 v w6 a hp hq).2) fuel _ _ (by simpa using hs) ?_ ?_ hK
      · have hlt : i < listed.size := by omega
        simp [Array.getD, hlt]
      · rw [getD_set_ne true ez]; exact hz
    · have hp : plainOp o.op = true := by
        rcases hcase with h | h | h
        · exact absurd h ek
        · exact absurd h ez
        · exact h
      simp only [if_neg ez, if_neg ek] at hat
      obtain ⟨u, hu, -⟩ := quiet_at (hat v0) hg (h2 v0 w0 hp0)
      have hr := plain_run hp (hu W0 hC)
      refine wp_of_run hr (ih _ _ (by simpa using hs) ?_ ?_ fun v w6 hpost => ?_)
      · rw [getD_set_ne true ek]; exact hk
      · rw [getD_set_ne true ez]; exact hz
      · obtain ⟨u', hu', hK'⟩ := quiet_at (hat v) hg (h2 v w6 hpost)
        have hr' := plain_run hp (hu' W0 hC)
        have : u' = u := by
          rcases hr with h1 | ⟨e1, h1⟩ <;> rcases hr' with h3 | ⟨e3, h3⟩
          · rw [h1] at h3; cases h3; rfl
          · rw [h1] at h3; cases h3
          · rw [h1] at h3; cases h3
          · rw [e1, e3]
        rw [← this]; exact hK'
end
/-- The question to the text of the region, by reckoning. -/
def regionB (κ ζ : Nat) (xs : Array Operand) (l : List Oper) : Bool :=
  match l[κ]?, l[ζ]? with
  | some oκ, some oζ => decide (κ < ζ) && decide (ζ + 1 = l.length) && oζ.dst.isNone && chkOps κ ζ xs (fun i => oκ.after.any fun e => e.on == i && Region.binds .any e) 0 l && (List.range ζ).all (fun i => oζ.after.any fun e => e.on == i && Region.binds .any e)
  | _, _ => false
theorem regionIs_of {κ ζ : Nat} {xs : Array Operand} {l : List Oper} {oκ oζ : Oper} (hκ : l[κ]? = some oκ) (hζ : l[ζ]? = some oζ) (h : regionB κ ζ xs l = true) : RegionIs .any l κ ζ oκ oζ xs := by
  unfold regionB at h
  rw [hκ, hζ] at h
  simp only [Bool.and_eq_true, decide_eq_true_eq] at h
  obtain ⟨⟨⟨⟨h1, h2⟩, h3⟩, h4⟩, h5⟩ := h
  refine ⟨hκ, hζ, h1, h2, Option.isNone_iff_eq_none.1 h3, fun i o ho => ?_, fun i hi => ?_⟩
  · obtain ⟨g1, g2, g3, g4⟩ := chk_at l 0 h4 i o ho
    rw [Nat.zero_add] at g2 g3 g4
    refine ⟨g1, g2, g3, fun t ht => ?_⟩
    rcases g4 t ht with g | g
    · obtain ⟨e, he, hb⟩ := Array.any_eq_true'.1 g
      simp only [Bool.and_eq_true, beq_iff_eq] at hb
      exact .inl ⟨e, he, hb.1, hb.2⟩
    · exact .inr g
  · have := List.all_eq_true.1 h5 i (List.mem_range.2 hi)
    obtain ⟨e, he, hb⟩ := Array.any_eq_true'.1 this
    simp only [Bool.and_eq_true, beq_iff_eq] at hb
    exact ⟨e, he, hb.1, hb.2⟩
theorem wp_region_call {P : Program} {id : Nat} {Q : Exit → Act → World → Prop} {a : Act} {w : World} {l : List Oper} (κ ζ : Nat) (xs : Array Operand) (f : FuncId) {oκ oζ : Oper} (hκ : l[κ]? = some oκ) (hζ : l[ζ]? = some oζ) (hreg : regionB κ ζ xs l = true) (hm : P.follows .mixedOrders = true) (hB : ∀ v, Region.lexB .any (opsV l κ ζ oκ oζ v).toArray = true)
    (hrun : ∀ a : Act, (execOp a.eval oκ).run P w.drew = .ok (.enter f (xs.map a.eval)) w.drew) (C : World → Prop) (args : Array Value) (Post : Value → World → Prop) (hC : C w.drew) (hC1 : ∀ v w6, Post v w6 → C w6) (hcall : Calls P f args w.drew fun e w' => ∃ v, e = .returned v ∧ Post v w')
    (h : ∀ v w6, Post v w6 → wpQuiet P (opsV l κ ζ oκ oζ v).toArray C (fun a => xs.map a.eval = args ∧ ∃ wF, (execOp a.eval oζ).run P w6 = .ok .skip wF ∧ Q .normal a wF) (opsV l κ ζ oκ oζ v) a) : (Code.region id l.toArray true).wp P Q a w := by
  have hR := regionIs_of hκ hζ hreg
  have hlen : ∀ v, (opsV l κ ζ oκ oζ v).length = l.length := fun v => by simp [opsV]
  refine wp_region_any hm ?_
  have := hR.len
  have := hR.ne
  refine phase0 hR (C := C) hC f args hrun Post hC1 hcall (fun v w6 a => xs.map a.eval = args ∧ ∃ wF, (execOp a.eval oζ).run P w6 = .ok .skip wF ∧ Q .normal a wF) (fun _ _ _ _ hq => hq) _ _ _ (by simp) ?_ ?_ fun v w6 hp => ?_
  · simp [Array.getD]; omega
  · simp [Array.getD]; omega
  · have hb := hB v
    simp only [Region.lexB, Bool.and_eq_true] at hb
    have h5 := wpAnyQ_lex (C := C) (md := .any) hb.1 (opsV l κ ζ oκ oζ v) 0 (Array.replicate (opsV l κ ζ oκ oζ v).toArray.size false) a (by simp) (by simpa using hb.2) (h v w6 hp)
    simpa [hlen] using h5
/-- A world of a class. -/
structure Among (C : World → Prop) where
  w : World
  ok : C w
end Go.Proofs.YtaophiknldkfdaaGreatDoor
/- A region that draws its order, in which some operations that change memory stand in a forced row, and all others are plain: walked once in the order of the text. No condition. -/
namespace Go.Proofs.YtaophiknldkfdaaGreatDoor
open Go.RowKit

def posOf : List Nat → Nat → Option Nat
  | [], _ => none
  | s :: r, i => if s = i then some 0 else (posOf r i).map (· + 1)
def dum (sp : List Nat) (vs : List Value) (i : Nat) (o : Oper) : Oper := match posOf sp i with
  | none => o
  | some j => { o with op := .move (.const (vs.getD j undef)) }
def opsSeq (sp : List Nat) (vs : List Value) : Nat → List Oper → List Oper
  | _, [] => []
  | k, o :: r => dum sp vs k o :: opsSeq sp vs (k + 1) r
theorem opsSeq_at (sp : List Nat) (vs : List Value) : ∀ (l : List Oper) (k i : Nat), (opsSeq sp vs k l)[i]? = (l[i]?).map (dum sp vs (k + i))
  | [], _, i => by simp [opsSeq]
  | o :: r, k, i => by
    cases i with
    | zero => simp [opsSeq]
    | succ i =>
      have := opsSeq_at sp vs r (k + 1) i
      rw [show k + 1 + i = k + (i + 1) by omega] at this
      simpa [opsSeq] using this
theorem dum_after (sp : List Nat) (vs : List Value) (i : Nat) (o : Oper) : (dum sp vs i o).after = o.after ∧ (dum sp vs i o).guard = o.guard ∧ (dum sp vs i o).dst = o.dst := by
  unfold dum
  split <;> exact ⟨rfl, rfl, rfl⟩
theorem posOf_at : ∀ (sp : List Nat) (i j : Nat), posOf sp i = some j → sp[j]? = some i
  | [], _, _, h => by cases h
  | s :: r, i, j, h => by
    unfold posOf at h
    split at h
    · rename_i e; cases h; simp [e]
    · rename_i e
      rw [Option.map_eq_some_iff] at h
      obtain ⟨j', h1, rfl⟩ := h
      have := posOf_at r i j' h1
      simpa using this
theorem posOf_mem : ∀ (sp : List Nat) (i : Nat), posOf sp i = none → i ∉ sp
  | [], _, _ => by simp
  | s :: r, i, h => by
    unfold posOf at h
    split at h
    · cases h
    · rename_i e
      rw [Option.map_eq_none_iff] at h
      have := posOf_mem r i h
      simp only [List.mem_cons, not_or]
      exact ⟨fun e2 => e e2.symm, this⟩
/-- Does number i wait on number t, at once or by others? -/
def reachB (l : List Oper) (t : Nat) : Nat → Nat → Bool
  | 0, _ => false
  | f + 1, i => match l[i]? with
    | none => false
    | some o => o.after.any fun e => Region.binds .any e && (e.on == t || reachB l t f e.on)
theorem reach_listed {l : List Oper} {t : Nat} {listed : Array Bool} (hdc : ∀ (i : Nat) (o : Oper), l[i]? = some o → listed.getD i false = true → ∀ e ∈ o.after, Region.binds .any e = true → listed.getD e.on false = true) :
    ∀ (f i : Nat) (o : Oper), l[i]? = some o → (∀ e ∈ o.after, Region.binds .any e = true → listed.getD e.on false = true) → reachB l t f i = true → listed.getD t false = true
  | 0, _, _, _, _, h => by cases h
  | f + 1, i, o, ho, hall, h => by
    unfold reachB at h
    rw [ho] at h
    obtain ⟨e, he, h2⟩ := Array.any_eq_true'.1 h
    simp only [Bool.and_eq_true, Bool.or_eq_true, beq_iff_eq] at h2
    obtain ⟨hb, h3⟩ := h2
    have hl := hall e he hb
    rcases h3 with h3 | h3
    · rw [← h3]; exact hl
    · have : ∃ q, l[e.on]? = some q := by
        cases f with
        | zero => cases h3
        | succ f =>
          unfold reachB at h3
          cases hq : l[e.on]? with
          | none => rw [hq] at h3; cases h3
          | some q => exact ⟨q, rfl⟩
      obtain ⟨q, hq⟩ := this
      exact reach_listed hdc f e.on q hq (hdc e.on q hq hl) h3
/-- What the rule asks of the text. -/
structure SeqIs (l : List Oper) (sp : List Nat) (xs : Nat → Array Operand) : Prop where
  each : ∀ (i : Nat) (o : Oper), l[i]? = some o → o.guard = none ∧ (i ∈ sp ∨ plainOp o.op = true) ∧ (∀ e ∈ o.after, e.on < i)
  row : ∀ t j : Nat, j < t → t < sp.length → reachB l (sp.getD j 0) l.length (sp.getD t 0) = true
  reads : ∀ (j : Nat) (oj : Oper), j < sp.length → l[sp.getD j 0]? = some oj → ∀ (i : Nat) (o : Oper), l[i]? = some o → ∀ t, o.dst = some t → (∃ e ∈ oj.after, e.on = i ∧ Region.binds .any e = true) ∨ ∀ x ∈ xs j, slotB x t = false
  within : ∀ s ∈ sp, s < l.length
  last : ∀ i : Nat, i < l.length → i ∉ sp → 0 < sp.length ∧ reachB l i l.length (sp.getD (sp.length - 1) 0) = true

def FinB (_P : Program) (Q : Exit → Act → World → Prop) (m : Nat) (xs : Nat → Array Operand) (args : Nat → List Value → Array Value) (vs : List Value) (w : World) (a : Act) : Prop := (∀ j, j < m → (xs j).map a.eval = args j (vs.take j)) ∧ Q .normal a w

section
variable {P : Program} {l : List Oper} {sp : List Nat} {xs : Nat → Array Operand} {C : World → Prop} {Q : Exit → Act → World → Prop} {args : Nat → List Value → Array Value} {Post : Nat → List Value → World → Prop}
theorem seq_full (hext : ∀ j vs w, Post j vs w → j < sp.length → ∃ v w', Post (j + 1) (vs ++ [v]) w') : ∀ (k j : Nat) (vs : List Value) (w : World), k + j = sp.length → Post j vs w → ∃ us w', Post sp.length (vs ++ us) w'
  | 0, j, vs, w, hk, h => ⟨[], w, by rw [List.append_nil, ← hk, Nat.zero_add]; exact h⟩
  | k + 1, j, vs, w, hk, h => by
    obtain ⟨v, w', h2⟩ := hext j vs w h (by omega)
    obtain ⟨us, w2, h3⟩ := seq_full hext k (j + 1) (vs ++ [v]) w' (by omega) h2
    exact ⟨v :: us, w2, by simpa using h3⟩
theorem seq_phase (hS : SeqIs l sp xs) (hC : ∀ j vs w, Post j vs w → j < sp.length → C w) (hlen : ∀ j vs w, Post j vs w → vs.length = j) (hext : ∀ j vs w, Post j vs w → j < sp.length → ∃ v w', Post (j + 1) (vs ++ [v]) w')
    (hstep : ∀ j vs w o, Post j vs w → j < sp.length → l[sp.getD j 0]? = some o → ∀ (a : Act) (next : Act → World → Prop), (xs j).map a.eval = args j vs → (∀ v w', Post (j + 1) (vs ++ [v]) w' → next (a.put o.dst v) w') → o.wp P a w next Q) :
    ∀ (fuel : Nat) (listed : Array Bool) (a : Act) (j : Nat) (vs : List Value) (w : World), Post j vs w → j ≤ sp.length → listed.size = l.length → (∀ t, t < sp.length → (listed.getD (sp.getD t 0) true = true ↔ t < j)) →
      (∀ (i : Nat) (o : Oper), l[i]? = some o → listed.getD i false = true → ∀ e ∈ o.after, Region.binds .any e = true → listed.getD e.on false = true) →
      (∀ us w', Post sp.length (vs ++ us) w' → wpAnyQ P .any (opsSeq sp (vs ++ us) 0 l).toArray C (FinB P Q sp.length xs args (vs ++ us) w') fuel listed a) → wpAny P .any l.toArray Q fuel listed a w := by
  intro fuel
  have hrdy : ∀ (vs : List Value) (listed : Array Bool) (i : Nat), i ∈ Region.ready .any (opsSeq sp vs 0 l).toArray listed ↔ i ∈ Region.ready .any l.toArray listed := by
    intro vs listed i
    rw [mem_ready, mem_ready, List.getElem?_toArray, List.getElem?_toArray, opsSeq_at]
    refine and_congr_right fun _ => ?_
    cases l[i]? with
    | none => simp
    | some o =>
      simp only [Option.map_some, Option.some.injEq, exists_eq_left']
      rw [(dum_after sp vs (0 + i) o).1]
  have hemp : ∀ (vs : List Value) (listed : Array Bool), Region.ready .any (opsSeq sp vs 0 l).toArray listed = [] → Region.ready .any l.toArray listed = [] := fun vs listed h => List.eq_nil_iff_forall_not_mem.2 fun i hi => by
    rw [← hrdy vs] at hi; rw [h] at hi; cases hi
  have hemp2 : ∀ (vs : List Value) (listed : Array Bool), Region.ready .any l.toArray listed = [] → Region.ready .any (opsSeq sp vs 0 l).toArray listed = [] := fun vs listed h => List.eq_nil_iff_forall_not_mem.2 fun i hi => by
    rw [hrdy vs] at hi; rw [h] at hi; cases hi
  have hnr : ∀ (listed : Array Bool) (j : Nat), listed.size = l.length → j < sp.length → listed.getD (sp.getD j 0) true = false → Region.ready .any l.toArray listed ≠ [] := fun listed j hs hj hz => ready_ne (fun i o h e he => (hS.each i o (by simpa using h)).2.2 e he) (by simpa using hs) (sp.getD j 0) (by
    have := hS.within (sp.getD j 0) (by rw [List.getD, List.getElem?_eq_getElem hj]; exact List.getElem_mem hj)
    simpa using this) hz
  have hun : ∀ (listed : Array Bool) (j : Nat), (∀ t, t < sp.length → (listed.getD (sp.getD t 0) true = true ↔ t < j)) → j < sp.length → listed.getD (sp.getD j 0) true = false := fun listed j h hj => by
    cases hb : listed.getD (sp.getD j 0) true with
    | false => rfl
    | true => exact absurd ((h j hj).1 hb) (Nat.lt_irrefl j)
  induction fuel with
  | zero =>
    intro listed a j vs w hp hj hs hst hdc h
    obtain ⟨us, w', hf⟩ := seq_full hext (sp.length - j) j vs w (by omega) hp
    rcases Nat.lt_or_ge j sp.length with hlt | hge
    · exact absurd (hemp _ _ (h us w' hf).1) (hnr listed j hs hlt (hun listed j hst hlt))
    · obtain rfl : j = sp.length := by omega
      have h2 := h [] w (by rw [List.append_nil]; exact hp)
      exact ⟨hemp _ _ h2.1, h2.2.2⟩
  | succ fuel ih =>
    intro listed a j vs w hp hj hs hst hdc h
    obtain ⟨us0, w0, hf0⟩ := seq_full hext (sp.length - j) j vs w (by omega) hp
    refine ⟨fun h0 => ?_, fun i hi => ?_⟩
    · rcases Nat.lt_or_ge j sp.length with hlt | hge
      · exact absurd h0 (hnr listed j hs hlt (hun listed j hst hlt))
      · obtain rfl : j = sp.length := by omega
        exact ((h [] w (by rw [List.append_nil]; exact hp)).1 (hemp2 _ _ h0)).2
    · have h2 := fun us w' hf => (h us w' hf).2 i ((hrdy (vs ++ us) listed i).2 hi)
      obtain ⟨hunl, o, ho, hdeps⟩ := mem_ready.1 hi
      rw [List.getElem?_toArray] at ho
      obtain ⟨hg, hcase, -⟩ := hS.each i o ho
      have hil : i < listed.size := by rw [hs]; exact (List.getElem?_eq_some_iff.1 ho).1
      have hdc2 : ∀ (k : Nat) (q : Oper), l[k]? = some q → (listed.setIfInBounds i true).getD k false = true → ∀ e ∈ q.after, Region.binds .any e = true → (listed.setIfInBounds i true).getD e.on false = true := by
        intro k q hq hk e he hb
        by_cases e1 : i = k
        · subst e1
          rw [ho] at hq
          obtain rfl := Option.some.inj hq
          exact getD_set_true (hdeps e he hb)
        · rw [getD_set_ne false e1] at hk
          exact getD_set_true (hdc k q hq hk e he hb)
      unfold wpOp
      simp only [List.getElem?_toArray, ho, wanted_of hg, if_true]
      left
      cases hpos : posOf sp i with
      | some t =>
        have hsp := posOf_at sp i t hpos
        have htl : t < sp.length := (List.getElem?_eq_some_iff.1 hsp).1
        have hsg : sp.getD t 0 = i := by rw [List.getD, hsp]; rfl
        have htj : ¬ t < j := fun hlt => by
          have := (hst t htl).2 hlt
          rw [hsg, hunl] at this; cases this
        have hjt : ¬ j < t := fun hlt => by
          have h3 := reach_listed hdc l.length i o ho hdeps (by rw [← hsg]; exact hS.row t j hlt htl)
          have h4 := hun listed j hst (by omega)
          have hjl : sp.getD j 0 < listed.size := by
            rw [hs]
            exact hS.within _ (by rw [List.getD, List.getElem?_eq_getElem (show j < sp.length by omega)]; exact List.getElem_mem _)
          have h5 : listed.getD (sp.getD j 0) false = listed.getD (sp.getD j 0) true := by simp only [Array.getD, hjl, dite_true]
          rw [h5, h4] at h3; cases h3
        obtain rfl : t = j := by omega
        have hargs : (xs t).map a.eval = args t vs := by
          obtain ⟨a', hq, hsame⟩ := final_of_any _ _ _ (h us0 w0 hf0)
          have h6 := hq.1 t htl
          rw [List.take_left' (hlen _ _ _ hp)] at h6
          rw [← h6]
          refine Array.map_congr_left fun x hx => (eval_same fun u hu => hsame u fun k q hk hkun hd => ?_).symm
          rw [List.getElem?_toArray, opsSeq_at, Option.map_eq_some_iff] at hk
          obtain ⟨q0, hq0, rfl⟩ := hk
          rw [(dum_after sp _ _ q0).2.2] at hd
          rcases hS.reads t o htl (by rw [hsg]; exact ho) k q0 hq0 u hd with ⟨e, he, e1, hb⟩ | h9
          · have h8 := hdeps e he hb
            rw [e1] at h8
            have hlt : k < listed.size := by rw [hs]; exact (List.getElem?_eq_some_iff.1 hq0).1
            simp [Array.getD, hlt] at h8 hkun
            rw [hkun] at h8; cases h8
          · rw [h9 x hx] at hu; cases hu
        refine hstep t vs w o hp htl (by rw [hsg]; exact ho) a _ hargs fun v w' hp2 => ?_
        refine ih _ _ (t + 1) (vs ++ [v]) w' hp2 (by omega) (by simpa using hs) ?_ hdc2 fun us w2 hf => ?_
        · intro k hk
          by_cases e1 : i = sp.getD k 0
          · have e2 : k = t := by
              rcases Nat.lt_trichotomy k t with h5 | h5 | h5
              · have := (hst k hk).2 h5
                rw [← e1, hunl] at this; cases this
              · exact h5
              · have h7 := hS.row k t h5 hk
                rw [← e1, hsg] at h7
                have h8 := reach_listed hdc l.length i o ho hdeps h7
                simp [Array.getD, hil] at h8 hunl
                rw [hunl] at h8; cases h8
            subst e2
            rw [← e1]
            simp [Array.getD, hil]
          · rw [getD_set_ne true e1, hst k hk]
            have : k ≠ t := fun e2 => e1 (by rw [e2, hsg])
            omega
        · have hf' : Post sp.length (vs ++ (v :: us)) w2 := by simpa using hf
          have h3 := h2 (v :: us) w2 hf'
          have hat : (opsSeq sp (vs ++ v :: us) 0 l).toArray[i]? = some { o with op := .move (.const v) } := by
            rw [List.getElem?_toArray, opsSeq_at, ho, Option.map_some, Nat.zero_add]
            unfold dum
            rw [hpos]
            dsimp only
            rw [List.getD, List.getElem?_append_right (by rw [hlen _ _ _ hp]; exact Nat.le_refl _), hlen _ _ _ hp]
            simp
          obtain ⟨u, hu, hK⟩ := quiet_at hat hg h3
          obtain rfl : v = u := by
            have := hu w (hC _ _ _ hp htl)
            unfold Oper.quietAt execOp at this
            simp only [Sem.run_pure, Oper.quietUpon] at this
            exact this.2
          rw [show vs ++ [v] ++ us = vs ++ (v :: us) by simp]
          exact hK
      | none =>
        have hns := posOf_mem sp i hpos
        have hpl : plainOp o.op = true := hcase.resolve_left hns
        have hat : ∀ us, (opsSeq sp (vs ++ us) 0 l).toArray[i]? = some o := fun us => by
          rw [List.getElem?_toArray, opsSeq_at, ho, Option.map_some, Nat.zero_add]
          unfold dum
          rw [hpos]
        obtain ⟨u, hu, -⟩ := quiet_at (hat us0) hg (h2 us0 w0 hf0)
        have hjm : j < sp.length := by
          rcases Nat.lt_or_ge j sp.length with hlt | hge
          · exact hlt
          · exfalso
            obtain ⟨hpos2, hre⟩ := hS.last i (List.getElem?_eq_some_iff.1 ho).1 hns
            have hsl : sp.length - 1 < sp.length := by omega
            have hsw := hS.within (sp.getD (sp.length - 1) 0) (by rw [List.getD, List.getElem?_eq_getElem hsl]; exact List.getElem_mem hsl)
            have hlis := (hst (sp.length - 1) hsl).2 (by omega)
            have hlt2 : sp.getD (sp.length - 1) 0 < listed.size := by omega
            have h5 : listed.getD (sp.getD (sp.length - 1) 0) false = listed.getD (sp.getD (sp.length - 1) 0) true := by simp only [Array.getD, hlt2, dite_true]
            rw [← h5] at hlis
            have h6 := reach_listed hdc l.length (sp.getD (sp.length - 1) 0) _ (List.getElem?_eq_getElem hsw) (hdc _ _ (List.getElem?_eq_getElem hsw) hlis) hre
            have h7 : listed.getD i false = listed.getD i true := by simp only [Array.getD, hil, dite_true]
            rw [h7, hunl] at h6
            cases h6
        have hr := plain_run hpl (hu w (hC _ _ _ hp hjm))
        refine wp_of_run hr (ih _ _ j vs w hp hj (by simpa using hs) ?_ hdc2 fun us w2 hf => ?_)
        · intro k hk
          have e1 : i ≠ sp.getD k 0 := fun e1 => hns (by rw [e1, List.getD, List.getElem?_eq_getElem hk]; exact List.getElem_mem hk)
          rw [getD_set_ne true e1]
          exact hst k hk
        · obtain ⟨u', hu', hK'⟩ := quiet_at (hat us) hg (h2 us w2 hf)
          have hr' := plain_run hpl (hu' w (hC _ _ _ hp hjm))
          have : u' = u := by
            rcases hr with h1 | ⟨e1, h1⟩ <;> rcases hr' with h3 | ⟨e3, h3⟩
            · rw [h1] at h3; cases h3; rfl
            · rw [h1] at h3; cases h3
            · rw [h1] at h3; cases h3
            · rw [e1, e3]
          rw [← this]; exact hK'
end
/-- The question to the text, by reckoning. -/
def seqB (l : List Oper) (sp : List Nat) (xs : List (Array Operand)) : Bool :=
  (List.range l.length).all (fun i => match l[i]? with
    | none => true
    | some o => o.guard.isNone && (sp.contains i || plainOp o.op) && o.after.all (fun e => decide (e.on < i)) &&
      (List.range sp.length).all (fun j => match l[sp.getD j 0]?, o.dst with
        | some oj, some t => oj.after.any (fun e => e.on == i && Region.binds .any e) || (xs.getD j #[]).all (fun x => !slotB x t)
        | _, _ => true)) &&
  (List.range sp.length).all (fun t => (List.range t).all fun j => reachB l (sp.getD j 0) l.length (sp.getD t 0)) && sp.all (fun s => decide (s < l.length)) && (List.range l.length).all (fun i => sp.contains i || (decide (0 < sp.length) && reachB l i l.length (sp.getD (sp.length - 1) 0)))
theorem seqIs_of {l : List Oper} {sp : List Nat} {xs : List (Array Operand)} (h : seqB l sp xs = true) : SeqIs l sp (fun j => xs.getD j #[]) := by
  unfold seqB at h
  simp only [Bool.and_eq_true] at h
  obtain ⟨⟨⟨h1, h2⟩, h3⟩, h9⟩ := h
  have hat : ∀ (i : Nat) (o : Oper), l[i]? = some o → _ := fun i o ho => by
    have := List.all_eq_true.1 h1 i (List.mem_range.2 (List.getElem?_eq_some_iff.1 ho).1)
    rw [ho] at this
    exact this
  refine ⟨fun i o ho => ?_, fun t j hj ht => ?_, fun j oj hj hoj i o ho t hd => ?_, fun s hs => by simpa using List.all_eq_true.1 h3 s hs, fun i hi hns => ?_⟩
  · have := hat i o ho
    simp only [Bool.and_eq_true, Bool.or_eq_true] at this
    obtain ⟨⟨⟨g1, g2⟩, g3⟩, -⟩ := this
    refine ⟨Option.isNone_iff_eq_none.1 g1, ?_, fun e he => by simpa using (Array.all_eq_true_iff_forall_mem.1 g3) e he⟩
    rcases g2 with g2 | g2
    · exact .inl (by simpa using g2)
    · exact .inr g2
  · exact List.all_eq_true.1 (List.all_eq_true.1 h2 t (List.mem_range.2 ht)) j (List.mem_range.2 hj)
  · have := hat i o ho
    simp only [Bool.and_eq_true] at this
    have h4 := List.all_eq_true.1 this.2 j (List.mem_range.2 hj)
    rw [hoj, hd] at h4
    simp only [Bool.or_eq_true] at h4
    rcases h4 with h4 | h4
    · obtain ⟨e, he, hb⟩ := Array.any_eq_true'.1 h4
      simp only [Bool.and_eq_true, beq_iff_eq] at hb
      exact .inl ⟨e, he, hb.1, hb.2⟩
    · exact .inr fun x hx => by simpa using (Array.all_eq_true_iff_forall_mem.1 h4) x hx
  · have := List.all_eq_true.1 h9 i (List.mem_range.2 hi)
    simp only [Bool.or_eq_true, Bool.and_eq_true, decide_eq_true_eq] at this
    rcases this with g | g
    · exact absurd (by simpa using g) hns
    · exact g
/-- THE RULE. sp: the numbers of the operations that change memory, in their row; xs: what each reads; args: what these are, by the results so far; Post j vs w: j of them are done, with these results, in this world. -/
theorem wp_region_seq {P : Program} {id : Nat} {Q : Exit → Act → World → Prop} {a : Act} {w : World} {l : List Oper} (sp : List Nat) (xs : List (Array Operand)) (hreg : seqB l sp xs = true) (hm : P.follows .mixedOrders = true) (hB : ∀ vs : List Value, Region.lexB .any (opsSeq sp vs 0 l).toArray = true)
    (C : World → Prop) (args : Nat → List Value → Array Value) (Post : Nat → List Value → World → Prop) (h0 : Post 0 [] w.drew) (hC : ∀ j vs w, Post j vs w → j < sp.length → C w) (hlen : ∀ j vs w, Post j vs w → vs.length = j) (hext : ∀ j vs w, Post j vs w → j < sp.length → ∃ v w', Post (j + 1) (vs ++ [v]) w')
    (hstep : ∀ j vs w o, Post j vs w → j < sp.length → l[sp.getD j 0]? = some o → ∀ (a : Act) (next : Act → World → Prop), (xs.getD j #[]).map a.eval = args j vs → (∀ v w', Post (j + 1) (vs ++ [v]) w' → next (a.put o.dst v) w') → o.wp P a w next Q)
    (h : ∀ vs w', Post sp.length vs w' → wpQuiet P (opsSeq sp vs 0 l).toArray C (FinB P Q sp.length (fun j => xs.getD j #[]) args vs w') (opsSeq sp vs 0 l) a) : (Code.region id l.toArray true).wp P Q a w := by
  have hlen2 : ∀ (vs : List Value) (k : Nat) (l : List Oper), (opsSeq sp vs k l).length = l.length := by
    intro vs k l
    induction l generalizing k with
    | nil => rfl
    | cons o r ih => simp [opsSeq, ih]
  refine wp_region_any hm ?_
  refine seq_phase (seqIs_of hreg) hC hlen hext hstep _ _ a 0 [] _ h0 (Nat.zero_le _) (by simp) (fun t ht => ?_) (fun i o ho hi => ?_) fun us w' hp => ?_
  · have hw := (seqIs_of hreg).within (sp.getD t 0) (by rw [List.getD, List.getElem?_eq_getElem ht]; exact List.getElem_mem ht)
    constructor
    · intro h9
      simp only [List.getD_eq_getElem?_getD] at hw
      simp [Array.getD, hw] at h9
    · intro h9; omega
  · have hlt := (List.getElem?_eq_some_iff.1 ho).1
    simp [Array.getD, hlt] at hi
  · have hb := hB us
    simp only [Region.lexB, Bool.and_eq_true] at hb
    rw [List.nil_append] at hp ⊢
    have h5 := wpAnyQ_lex (C := C) (md := .any) hb.1 (opsSeq sp us 0 l) 0 (Array.replicate (opsSeq sp us 0 l).toArray.size false) a (by simp) (by simpa using hb.2) (h us w' hp)
    simpa [hlen2] using h5
end Go.Proofs.YtaophiknldkfdaaGreatDoor
/- A region that draws its order, in which some operations that change memory come in any order that the text allows, and all others are plain: walked once in the order of the text. No condition. -/
namespace Go.Proofs.YtaophiknldkfdaaGreatDoor
open Go.RowKit

/-- Which of them are done, with what. -/
def upd (m : Nat → Option Value) (t : Nat) (v : Value) : Nat → Option Value := fun j => if j = t then some v else m j
def FullM (n : Nat) (m : Nat → Option Value) : Prop := ∀ t, t < n → m t ≠ none
def ExtM (m m' : Nat → Option Value) : Prop := ∀ t v, m t = some v → m' t = some v
theorem upd_self (m : Nat → Option Value) (t : Nat) (v : Value) : upd m t v t = some v := by simp [upd]
theorem upd_ne (m : Nat → Option Value) {t j : Nat} (v : Value) (h : j ≠ t) : upd m t v j = m j := by simp [upd, h]
theorem ExtM.of_upd {m m' : Nat → Option Value} {t : Nat} {v : Value} (h : ExtM (upd m t v) m') (hn : m t = none) : ExtM m m' := fun j x hj => h j x (by
  by_cases e : j = t
  · subst e; rw [hn] at hj; cases hj
  · rw [upd_ne m v e]; exact hj)
def dumP (sp : List Nat) (m : Nat → Option Value) (i : Nat) (o : Oper) : Oper := match posOf sp i with
  | none => o
  | some j => { o with op := .move (.const ((m j).getD undef)) }
def opsP (sp : List Nat) (m : Nat → Option Value) : Nat → List Oper → List Oper
  | _, [] => []
  | k, o :: r => dumP sp m k o :: opsP sp m (k + 1) r
theorem opsP_at (sp : List Nat) (m : Nat → Option Value) : ∀ (l : List Oper) (k i : Nat), (opsP sp m k l)[i]? = (l[i]?).map (dumP sp m (k + i))
  | [], _, i => by simp [opsP]
  | o :: r, k, i => by
    cases i with
    | zero => simp [opsP]
    | succ i =>
      have := opsP_at sp m r (k + 1) i
      rw [show k + 1 + i = k + (i + 1) by omega] at this
      simpa [opsP] using this
theorem dumP_after (sp : List Nat) (m : Nat → Option Value) (i : Nat) (o : Oper) : (dumP sp m i o).after = o.after ∧ (dumP sp m i o).guard = o.guard ∧ (dumP sp m i o).dst = o.dst := by
  unfold dumP
  split <;> exact ⟨rfl, rfl, rfl⟩
theorem ready_ne2 {md : Region.Mode} {ops : Array Oper} {listed : Array Bool} (hacy : ∀ (i : Nat) (o : Oper), ops[i]? = some o → ∀ e ∈ o.after, Region.binds md e = true → e.on < i) (hsz : listed.size = ops.size) : ∀ i, i < ops.size → listed.getD i true = false → Region.ready md ops listed ≠ [] := by
  intro i
  induction i using Nat.strongRecOn with
  | ind i ih =>
    intro hi hun
    by_cases hall : ∀ e ∈ (ops[i]).after, Region.binds md e = true → listed.getD e.on false = true
    · intro h
      have : i ∈ Region.ready md ops listed := mem_ready.2 ⟨hun, ops[i], Array.getElem?_eq_getElem hi, fun e he hb => hall e he hb⟩
      rw [h] at this
      cases this
    · obtain ⟨e, he, hb, hf⟩ : ∃ e, e ∈ (ops[i]).after ∧ Region.binds md e = true ∧ ¬ listed.getD e.on false = true := Classical.byContradiction fun hn => hall fun e he hb => Classical.byContradiction fun hf => hn ⟨e, he, hb, hf⟩
      have hlt := hacy i _ (Array.getElem?_eq_getElem hi) e he hb
      refine ih e.on hlt (by omega) ?_
      have hlt2 : e.on < listed.size := by omega
      simp [Array.getD, hlt2] at hf ⊢
      exact hf
/-- What the rule asks of the text. -/
structure ParIs (l : List Oper) (sp : List Nat) (xs : Nat → Array Operand) (pre : Nat → Nat → Bool) : Prop where
  each : ∀ (i : Nat) (o : Oper), l[i]? = some o → o.guard = none ∧ (i ∈ sp ∨ plainOp o.op = true) ∧ (∀ e ∈ o.after, Region.binds .any e = true → e.on < i)
  order : ∀ t j : Nat, t < sp.length → j < sp.length → pre t j = true → reachB l (sp.getD j 0) l.length (sp.getD t 0) = true
  uniq : ∀ t k : Nat, t < sp.length → k < sp.length → sp.getD t 0 = sp.getD k 0 → t = k
  reads : ∀ (j : Nat) (oj : Oper), j < sp.length → l[sp.getD j 0]? = some oj → ∀ (i : Nat) (o : Oper), l[i]? = some o → ∀ t, o.dst = some t → (∃ e ∈ oj.after, e.on = i ∧ Region.binds .any e = true) ∨ ∀ x ∈ xs j, slotB x t = false
  within : ∀ s ∈ sp, s < l.length
  last : ∀ i : Nat, i < l.length → i ∉ sp → 0 < sp.length ∧ reachB l i l.length (sp.getD (sp.length - 1) 0) = true
def FinP (_P : Program) (Q : Exit → Act → World → Prop) (n : Nat) (xs : Nat → Array Operand) (args : Nat → (Nat → Option Value) → Array Value) (m : Nat → Option Value) (w : World) (a : Act) : Prop := (∀ t, t < n → (xs t).map a.eval = args t m) ∧ Q .normal a w

section
variable {P : Program} {l : List Oper} {sp : List Nat} {xs : Nat → Array Operand} {pre : Nat → Nat → Bool} {C : World → Prop} {Q : Exit → Act → World → Prop} {args : Nat → (Nat → Option Value) → Array Value} {Post : (Nat → Option Value) → World → Prop}
theorem par_phase (hS : ParIs l sp xs pre) (hC : ∀ m w, Post m w → ¬ FullM sp.length m → C w) (hfull : ∀ m w, Post m w → ∃ m' w', Post m' w' ∧ FullM sp.length m' ∧ ExtM m m')
    (hdep : ∀ t m m', t < sp.length → (∀ j, j < sp.length → pre t j = true → m j ≠ none) → ExtM m m' → args t m = args t m')
    (hstep : ∀ t m w o, Post m w → t < sp.length → m t = none → (∀ j, j < sp.length → pre t j = true → m j ≠ none) → l[sp.getD t 0]? = some o → ∀ (a : Act) (next : Act → World → Prop), (xs t).map a.eval = args t m → (∀ v w', Post (upd m t v) w' → next (a.put o.dst v) w') → o.wp P a w next Q) :
    ∀ (fuel : Nat) (listed : Array Bool) (a : Act) (m : Nat → Option Value) (w : World), Post m w → listed.size = l.length → (∀ t, t < sp.length → (listed.getD (sp.getD t 0) true = true ↔ m t ≠ none)) →
      (∀ (i : Nat) (o : Oper), l[i]? = some o → listed.getD i false = true → ∀ e ∈ o.after, Region.binds .any e = true → listed.getD e.on false = true) →
      (∀ m' w', Post m' w' → FullM sp.length m' → ExtM m m' → wpAnyQ P .any (opsP sp m' 0 l).toArray C (FinP P Q sp.length xs args m' w') fuel listed a) → wpAny P .any l.toArray Q fuel listed a w := by
  intro fuel
  have hrdy : ∀ (m : Nat → Option Value) (listed : Array Bool) (i : Nat), i ∈ Region.ready .any (opsP sp m 0 l).toArray listed ↔ i ∈ Region.ready .any l.toArray listed := by
    intro m listed i
    rw [mem_ready, mem_ready, List.getElem?_toArray, List.getElem?_toArray, opsP_at]
    refine and_congr_right fun _ => ?_
    cases l[i]? with
    | none => simp
    | some o =>
      simp only [Option.map_some, Option.some.injEq, exists_eq_left']
      rw [(dumP_after sp m (0 + i) o).1]
  have hemp : ∀ (m : Nat → Option Value) (listed : Array Bool), Region.ready .any (opsP sp m 0 l).toArray listed = [] → Region.ready .any l.toArray listed = [] := fun m listed h => List.eq_nil_iff_forall_not_mem.2 fun i hi => by
    rw [← hrdy m] at hi; rw [h] at hi; cases hi
  have hemp2 : ∀ (m : Nat → Option Value) (listed : Array Bool), Region.ready .any l.toArray listed = [] → Region.ready .any (opsP sp m 0 l).toArray listed = [] := fun m listed h => List.eq_nil_iff_forall_not_mem.2 fun i hi => by
    rw [hrdy m] at hi; rw [h] at hi; cases hi
  have hnr : ∀ (listed : Array Bool) (j : Nat), listed.size = l.length → j < sp.length → listed.getD (sp.getD j 0) true = false → Region.ready .any l.toArray listed ≠ [] := fun listed j hs hj hz => ready_ne2 (fun i o h e he hb => (hS.each i o (by simpa using h)).2.2 e he hb) (by simpa using hs) (sp.getD j 0) (by
    have := hS.within (sp.getD j 0) (by rw [List.getD, List.getElem?_eq_getElem hj]; exact List.getElem_mem hj)
    simpa using this) hz
  have hopen : ∀ (listed : Array Bool) (m : Nat → Option Value), listed.size = l.length → (∀ t, t < sp.length → (listed.getD (sp.getD t 0) true = true ↔ m t ≠ none)) → ¬ FullM sp.length m → Region.ready .any l.toArray listed ≠ [] := fun listed m hs hst hnf => by
    obtain ⟨t, ht⟩ := Classical.not_forall.1 hnf
    obtain ⟨htl, ht2⟩ := Classical.not_imp.1 ht
    refine hnr listed t hs htl ?_
    cases hb : listed.getD (sp.getD t 0) true with
    | false => rfl
    | true => exact absurd ((hst t htl).1 hb) ht2
  induction fuel with
  | zero =>
    intro listed a m w hp hs hst hdc h
    obtain ⟨m', w', hf, hF, hE⟩ := hfull m w hp
    by_cases hall : FullM sp.length m
    · have h2 := h m w hp hall (fun _ _ e => e)
      exact ⟨hemp _ _ h2.1, h2.2.2⟩
    · exact absurd (hemp _ _ (h m' w' hf hF hE).1) (hopen listed m hs hst hall)
  | succ fuel ih =>
    intro listed a m w hp hs hst hdc h
    obtain ⟨m0, w0, hf0, hF0, hE0⟩ := hfull m w hp
    refine ⟨fun h0 => ?_, fun i hi => ?_⟩
    · by_cases hall : FullM sp.length m
      · exact ((h m w hp hall (fun _ _ e => e)).1 (hemp2 _ _ h0)).2
      · exact absurd h0 (hopen listed m hs hst hall)
    · have h2 := fun m' w' hf hF hE => (h m' w' hf hF hE).2 i ((hrdy m' listed i).2 hi)
      obtain ⟨hunl, o, ho, hdeps⟩ := mem_ready.1 hi
      rw [List.getElem?_toArray] at ho
      obtain ⟨hg, hcase, -⟩ := hS.each i o ho
      have hil : i < listed.size := by rw [hs]; exact (List.getElem?_eq_some_iff.1 ho).1
      have hdc2 : ∀ (k : Nat) (q : Oper), l[k]? = some q → (listed.setIfInBounds i true).getD k false = true → ∀ e ∈ q.after, Region.binds .any e = true → (listed.setIfInBounds i true).getD e.on false = true := by
        intro k q hq hk e he hb
        by_cases e1 : i = k
        · subst e1
          rw [ho] at hq
          obtain rfl := Option.some.inj hq
          exact getD_set_true (hdeps e he hb)
        · rw [getD_set_ne false e1] at hk
          exact getD_set_true (hdc k q hq hk e he hb)
      unfold wpOp
      simp only [List.getElem?_toArray, ho, wanted_of hg, if_true]
      left
      cases hpos : posOf sp i with
      | some t =>
        have hsp := posOf_at sp i t hpos
        have htl : t < sp.length := (List.getElem?_eq_some_iff.1 hsp).1
        have hsg : sp.getD t 0 = i := by rw [List.getD, hsp]; rfl
        have hmt : m t = none := by
          cases hm : m t with
          | none => rfl
          | some x =>
            have := (hst t htl).2 (by rw [hm]; simp)
            rw [hsg, hunl] at this; cases this
        have hnf : ¬ FullM sp.length m := fun hF => hF t htl hmt
        have hpre : ∀ j, j < sp.length → pre t j = true → m j ≠ none := fun j hj hpj => by
          have h3 := reach_listed hdc l.length i o ho hdeps (by rw [← hsg]; exact hS.order t j htl hj hpj)
          refine (hst j hj).1 ?_
          have hjl : sp.getD j 0 < listed.size := by
            rw [hs]
            exact hS.within _ (by rw [List.getD, List.getElem?_eq_getElem hj]; exact List.getElem_mem _)
          have h5 : listed.getD (sp.getD j 0) false = listed.getD (sp.getD j 0) true := by simp only [Array.getD, hjl, dite_true]
          rw [← h5]; exact h3
        have hargs : (xs t).map a.eval = args t m := by
          obtain ⟨a', hq, hsame⟩ := final_of_any _ _ _ (h m0 w0 hf0 hF0 hE0)
          have h6 := hq.1 t htl
          rw [hdep t m m0 htl hpre hE0, ← h6]
          refine Array.map_congr_left fun x hx => (eval_same fun u hu => hsame u fun k q hk hkun hd => ?_).symm
          rw [List.getElem?_toArray, opsP_at, Option.map_eq_some_iff] at hk
          obtain ⟨q0, hq0, rfl⟩ := hk
          rw [(dumP_after sp _ _ q0).2.2] at hd
          rcases hS.reads t o htl (by rw [hsg]; exact ho) k q0 hq0 u hd with ⟨e, he, e1, hb⟩ | h9
          · have h8 := hdeps e he hb
            rw [e1] at h8
            have hlt : k < listed.size := by rw [hs]; exact (List.getElem?_eq_some_iff.1 hq0).1
            simp [Array.getD, hlt] at h8 hkun
            rw [hkun] at h8; cases h8
          · rw [h9 x hx] at hu; cases hu
        refine hstep t m w o hp htl hmt hpre (by rw [hsg]; exact ho) a _ hargs fun v w' hp2 => ?_
        refine ih _ _ (upd m t v) w' hp2 (by simpa using hs) ?_ hdc2 fun m' w2 hf hF hE => ?_
        · intro k hk
          by_cases e1 : i = sp.getD k 0
          · have e2 : k = t := hS.uniq k t hk htl (by rw [← e1, hsg])
            subst e2
            rw [← e1, upd_self]
            simp [Array.getD, hil]
          · rw [getD_set_ne true e1, hst k hk, upd_ne m v (fun e2 => e1 (by rw [e2, hsg]))]
        · have hmv : m' t = some v := hE t v (upd_self m t v)
          have h3 := h2 m' w2 hf hF (hE.of_upd hmt)
          have hat : (opsP sp m' 0 l).toArray[i]? = some { o with op := .move (.const v) } := by
            rw [List.getElem?_toArray, opsP_at, ho, Option.map_some, Nat.zero_add]
            unfold dumP
            rw [hpos]
            dsimp only
            rw [hmv]; rfl
          obtain ⟨u, hu, hK⟩ := quiet_at hat hg h3
          obtain rfl : v = u := by
            have := hu w (hC _ _ hp hnf)
            unfold Oper.quietAt execOp at this
            simp only [Sem.run_pure, Oper.quietUpon] at this
            exact this.2
          exact hK
      | none =>
        have hns := posOf_mem sp i hpos
        have hpl : plainOp o.op = true := hcase.resolve_left hns
        have hat : ∀ m', (opsP sp m' 0 l).toArray[i]? = some o := fun m' => by
          rw [List.getElem?_toArray, opsP_at, ho, Option.map_some, Nat.zero_add]
          unfold dumP
          rw [hpos]
        obtain ⟨u, hu, -⟩ := quiet_at (hat m0) hg (h2 m0 w0 hf0 hF0 hE0)
        have hnf : ¬ FullM sp.length m := fun hF => by
          obtain ⟨hpos2, hre⟩ := hS.last i (List.getElem?_eq_some_iff.1 ho).1 hns
          have hsl : sp.length - 1 < sp.length := by omega
          have hsw := hS.within (sp.getD (sp.length - 1) 0) (by rw [List.getD, List.getElem?_eq_getElem hsl]; exact List.getElem_mem hsl)
          have hlis := (hst (sp.length - 1) hsl).2 (hF _ hsl)
          have hlt2 : sp.getD (sp.length - 1) 0 < listed.size := by omega
          have h5 : listed.getD (sp.getD (sp.length - 1) 0) false = listed.getD (sp.getD (sp.length - 1) 0) true := by simp only [Array.getD, hlt2, dite_true]
          rw [← h5] at hlis
          have h6 := reach_listed hdc l.length (sp.getD (sp.length - 1) 0) _ (List.getElem?_eq_getElem hsw) (hdc _ _ (List.getElem?_eq_getElem hsw) hlis) hre
          have h7 : listed.getD i false = listed.getD i true := by simp only [Array.getD, hil, dite_true]
          rw [h7, hunl] at h6
          cases h6
        have hr := plain_run hpl (hu w (hC _ _ hp hnf))
        refine wp_of_run hr (ih _ _ m w hp (by simpa using hs) ?_ hdc2 fun m' w2 hf hF hE => ?_)
        · intro k hk
          have e1 : i ≠ sp.getD k 0 := fun e1 => hns (by rw [e1, List.getD, List.getElem?_eq_getElem hk]; exact List.getElem_mem hk)
          rw [getD_set_ne true e1]
          exact hst k hk
        · obtain ⟨u', hu', hK'⟩ := quiet_at (hat m') hg (h2 m' w2 hf hF hE)
          have hr' := plain_run hpl (hu' w (hC _ _ hp hnf))
          have : u' = u := by
            rcases hr with h1 | ⟨e1, h1⟩ <;> rcases hr' with h3 | ⟨e3, h3⟩
            · rw [h1] at h3; cases h3; rfl
            · rw [h1] at h3; cases h3
            · rw [h1] at h3; cases h3
            · rw [e1, e3]
          rw [← this]; exact hK'
end
/-- The question to the text, by reckoning. -/
def parB (l : List Oper) (sp : List Nat) (xs : List (Array Operand)) (pre : Nat → Nat → Bool) : Bool :=
  (List.range l.length).all (fun i => match l[i]? with
    | none => true
    | some o => o.guard.isNone && (sp.contains i || plainOp o.op) && o.after.all (fun e => !Region.binds .any e || decide (e.on < i)) &&
      (List.range sp.length).all (fun j => match l[sp.getD j 0]?, o.dst with
        | some oj, some t => oj.after.any (fun e => e.on == i && Region.binds .any e) || (xs.getD j #[]).all (fun x => !slotB x t)
        | _, _ => true)) &&
  (List.range sp.length).all (fun t => (List.range sp.length).all fun j => (!pre t j || reachB l (sp.getD j 0) l.length (sp.getD t 0)) && (!(sp.getD t 0 == sp.getD j 0) || t == j)) && sp.all (fun s => decide (s < l.length)) && (List.range l.length).all (fun i => sp.contains i || (decide (0 < sp.length) && reachB l i l.length (sp.getD (sp.length - 1) 0)))
theorem parIs_of {l : List Oper} {sp : List Nat} {xs : List (Array Operand)} {pre : Nat → Nat → Bool} (h : parB l sp xs pre = true) : ParIs l sp (fun j => xs.getD j #[]) pre := by
  unfold parB at h
  simp only [Bool.and_eq_true] at h
  obtain ⟨⟨⟨h1, h2⟩, h3⟩, h9⟩ := h
  have hat : ∀ (i : Nat) (o : Oper), l[i]? = some o → _ := fun i o ho => by
    have := List.all_eq_true.1 h1 i (List.mem_range.2 (List.getElem?_eq_some_iff.1 ho).1)
    rw [ho] at this
    exact this
  have h22 : ∀ t j, t < sp.length → j < sp.length → (pre t j = true → reachB l (sp.getD j 0) l.length (sp.getD t 0) = true) ∧ (sp.getD t 0 = sp.getD j 0 → t = j) := fun t j ht hj => by
    have := List.all_eq_true.1 (List.all_eq_true.1 h2 t (List.mem_range.2 ht)) j (List.mem_range.2 hj)
    simp only [Bool.and_eq_true, Bool.or_eq_true, Bool.not_eq_true', beq_eq_false_iff_ne, beq_iff_eq, ne_eq] at this
    exact ⟨fun e => this.1.resolve_left (by rw [e]; simp), fun e => this.2.resolve_left (fun e2 => e2 e)⟩
  refine ⟨fun i o ho => ?_, fun t j ht hj hp => (h22 t j ht hj).1 hp, fun t k ht hk e => (h22 t k ht hk).2 e, fun j oj hj hoj i o ho t hd => ?_, fun s hs => by simpa using List.all_eq_true.1 h3 s hs, fun i hi hns => ?_⟩
  · have := hat i o ho
    simp only [Bool.and_eq_true, Bool.or_eq_true] at this
    obtain ⟨⟨⟨g1, g2⟩, g3⟩, -⟩ := this
    refine ⟨Option.isNone_iff_eq_none.1 g1, ?_, fun e he hb => by have := (Array.all_eq_true_iff_forall_mem.1 g3) e he; rw [hb] at this; simpa using this⟩
    rcases g2 with g2 | g2
    · exact .inl (by simpa using g2)
    · exact .inr g2
  · have := hat i o ho
    simp only [Bool.and_eq_true] at this
    have h4 := List.all_eq_true.1 this.2 j (List.mem_range.2 hj)
    rw [hoj, hd] at h4
    simp only [Bool.or_eq_true] at h4
    rcases h4 with h4 | h4
    · obtain ⟨e, he, hb⟩ := Array.any_eq_true'.1 h4
      simp only [Bool.and_eq_true, beq_iff_eq] at hb
      exact .inl ⟨e, he, hb.1, hb.2⟩
    · exact .inr fun x hx => by simpa using (Array.all_eq_true_iff_forall_mem.1 h4) x hx
  · have := List.all_eq_true.1 h9 i (List.mem_range.2 hi)
    simp only [Bool.or_eq_true, Bool.and_eq_true, decide_eq_true_eq] at this
    rcases this with g | g
    · exact absurd (by simpa using g) hns
    · exact g
/-- THE RULE. sp: the numbers of the operations that change memory; pre t j: the t-th waits on the j-th; xs: what each reads; args: what these are, by what is done; Post m w: these are done, with these results, in this world. -/
theorem wp_region_par {P : Program} {id : Nat} {Q : Exit → Act → World → Prop} {a : Act} {w : World} {l : List Oper} (sp : List Nat) (xs : List (Array Operand)) (pre : Nat → Nat → Bool) (hreg : parB l sp xs pre = true) (hm : P.follows .mixedOrders = true) (hB : ∀ m : Nat → Option Value, Region.lexB .any (opsP sp m 0 l).toArray = true)
    (C : World → Prop) (args : Nat → (Nat → Option Value) → Array Value) (Post : (Nat → Option Value) → World → Prop) (h0 : Post (fun _ => none) w.drew) (hC : ∀ m w, Post m w → ¬ FullM sp.length m → C w) (hfull : ∀ m w, Post m w → ∃ m' w', Post m' w' ∧ FullM sp.length m' ∧ ExtM m m')
    (hdep : ∀ t m m', t < sp.length → (∀ j, j < sp.length → pre t j = true → m j ≠ none) → ExtM m m' → args t m = args t m')
    (hstep : ∀ t m w o, Post m w → t < sp.length → m t = none → (∀ j, j < sp.length → pre t j = true → m j ≠ none) → l[sp.getD t 0]? = some o → ∀ (a : Act) (next : Act → World → Prop), (xs.getD t #[]).map a.eval = args t m → (∀ v w', Post (upd m t v) w' → next (a.put o.dst v) w') → o.wp P a w next Q)
    (h : ∀ m w', Post m w' → FullM sp.length m → wpQuiet P (opsP sp m 0 l).toArray C (FinP P Q sp.length (fun j => xs.getD j #[]) args m w') (opsP sp m 0 l) a) : (Code.region id l.toArray true).wp P Q a w := by
  have hlen2 : ∀ (m : Nat → Option Value) (k : Nat) (l : List Oper), (opsP sp m k l).length = l.length := by
    intro m k l
    induction l generalizing k with
    | nil => rfl
    | cons o r ih => simp [opsP, ih]
  refine wp_region_any hm ?_
  refine par_phase (parIs_of hreg) hC hfull hdep hstep _ _ a (fun _ => none) _ h0 (by simp) (fun t ht => ?_) (fun i o ho hi => ?_) fun m' w' hp hF _ => ?_
  · have hw := (parIs_of hreg).within (sp.getD t 0) (by rw [List.getD, List.getElem?_eq_getElem ht]; exact List.getElem_mem ht)
    constructor
    · intro h9
      simp only [List.getD_eq_getElem?_getD] at hw
      simp [Array.getD, hw] at h9
    · intro h9; exact absurd rfl h9
  · have hlt := (List.getElem?_eq_some_iff.1 ho).1
    simp [Array.getD, hlt] at hi
  · have hb := hB m'
    simp only [Region.lexB, Bool.and_eq_true] at hb
    have h5 := wpAnyQ_lex (C := C) (md := .any) hb.1 (opsP sp m' 0 l) 0 (Array.replicate (opsP sp m' 0 l).toArray.size false) a (by simp) (by simpa using hb.2) (h m' w' hp hF)
    simpa [hlen2] using h5
end Go.Proofs.YtaophiknldkfdaaGreatDoor
