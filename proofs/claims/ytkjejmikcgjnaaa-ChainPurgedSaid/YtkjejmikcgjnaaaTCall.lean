/- A region that draws its order, reads, calls one function that changes memory, and stores at its end: walked once in the order of the text. No condition. -/
import Derived.Test.YtkjejmikcgjnaaaWQuiet
namespace Go.Proofs.Ytkjejmikcgjnaaa
open Go.RowKit

/-- Operations that enter no function and leave the world as it is, where they yield. -/
def plainOp : Op → Bool
  | .move _ | .assign _ | .fieldAddr .. | .indexAddr .. | .load .. | .binOp .. | .unOp .. | .nilCheck _ | .build .. | .field .. | .extract .. | .index .. => true
  | _ => false
theorem andThen_ne {α : Type} (r : Result α) (g : α → World → Result Next) {f : FuncId} {args : Array Value} {w : World} (h : ∀ a w', g a w' ≠ .ok (.enter f args) w) : r.andThen g ≠ .ok (.enter f args) w := by
  cases r with
  | ok a w' => exact h a w'
  | halt x w' => simp [Result.andThen]
theorem bind_value {P : Program} {α : Type} (s : Sem α) (g : α → Value) (w w' : World) (f : FuncId) (args : Array Value) : (s >>= fun x => (pure (.value (g x)) : Sem Next)).run P w ≠ .ok (.enter f args) w' := by
  rw [Sem.run_bind]
  exact andThen_ne _ _ fun a w1 => by simp
theorem plain_noEnter {P : Program} {ρ : Operand → Value} {o : Oper} (h : plainOp o.op = true) (w w' : World) (f : FuncId) (args : Array Value) : (execOp ρ o).run P w ≠ .ok (.enter f args) w' := by
  unfold execOp
  cases ho : o.op <;> simp only [ho, plainOp, Bool.false_eq_true] at h ⊢
  case nilCheck x =>
    have hp : (runtimePanic .nilDeref : Sem Next).run P w ≠ .ok (.enter f args) w' := by
      unfold runtimePanic
      simp [go_sem]
    split
    · exact hp
    · exact hp
    · exact hp
    · split
      · exact hp
      · rw [Sem.run_bind]
        refine andThen_ne _ _ fun a w1 => ?_
        rw [Sem.run_bind]
        refine andThen_ne _ _ fun b w2 => ?_
        split
        · rw [Sem.run_bind]
          exact andThen_ne _ _ fun c w3 => by simp
        · simp
      · simp
    · simp
  all_goals first | exact bind_value _ _ _ _ _ _ | simp

/-- The slots that an operand reads. -/
def slotB (x : Operand) (t : Tmp) : Bool := match x with
  | .tmp u => u == t
  | _ => false
/-- What the rule asks of the text of the region: no guards; but for the call (number κ) and the store at the end (number ζ) plain operations; what waits waits on what stands ahead; whatever the call reads it waits on. -/
def chkOps (κ ζ : Nat) (xs : Array Operand) (dep : Nat → Bool) : Nat → List Oper → Bool
  | _, [] => true
  | k, o :: r => o.guard.isNone && (k == κ || k == ζ || plainOp o.op) && o.after.all (fun e => decide (e.on < k)) && (match o.dst with
      | none => true
      | some t => dep k || xs.all (fun x => !slotB x t)) && chkOps κ ζ xs dep (k + 1) r
theorem chk_at {κ ζ : Nat} {xs : Array Operand} {dep : Nat → Bool} : ∀ (l : List Oper) (k : Nat), chkOps κ ζ xs dep k l = true → ∀ (i : Nat) (o : Oper), l[i]? = some o →
    o.guard = none ∧ (k + i = κ ∨ k + i = ζ ∨ plainOp o.op = true) ∧ (∀ e ∈ o.after, e.on < k + i) ∧ (∀ t, o.dst = some t → dep (k + i) = true ∨ ∀ x ∈ xs, slotB x t = false)
  | [], _, _, i, o, h => by simp at h
  | p :: r, k, hc, i, o, h => by
    simp only [chkOps, Bool.and_eq_true] at hc
    obtain ⟨⟨⟨⟨h1, h2⟩, h3⟩, h4⟩, h5⟩ := hc
    cases i with
    | zero =>
      obtain rfl : p = o := by simpa using h
      refine ⟨Option.isNone_iff_eq_none.1 h1, by simpa [or_assoc] using h2, fun e he => by simpa using (Array.all_eq_true_iff_forall_mem.1 h3) e he, ?_⟩
      intro t ht
      rw [ht] at h4
      simp only [Bool.or_eq_true] at h4
      rcases h4 with h4 | h4
      · exact .inl (by simpa using h4)
      · exact .inr fun x hx => by simpa using (Array.all_eq_true_iff_forall_mem.1 h4) x hx
    | succ i =>
      have := chk_at r (k + 1) h5 i o (by simpa using h)
      rw [show k + (i + 1) = k + 1 + i by omega]
      exact this
/-- The region with the call's result in the place of the call, and nothing in the place of the store. -/
def opsV (l : List Oper) (κ ζ : Nat) (oκ oζ : Oper) (v : Value) : List Oper := (l.set κ { oκ with op := .move (.const v) }).set ζ { oζ with op := .move (.const undef), dst := none }
theorem put_none (a : Act) (v : Value) : a.put none v = a := rfl

section
variable {P : Program} {ops : Array Oper} {md : Region.Mode} {C : World → Prop}
theorem put_other (a : Act) (t t' : Tmp) (v : Value) (h : t' ≠ t) : (a.put (some t') v).tmps[t]? = a.tmps[t]? := by
  simp [Act.put, Array.getElem?_setIfInBounds, h]
/-- From wherever a region stands it can be gone to its end, and what no open operation writes stays. -/
theorem final_of_any {Q : Act → Prop} : ∀ (fuel : Nat) (listed : Array Bool) (a : Act), wpAnyQ P md ops C Q fuel listed a →
    ∃ a', Q a' ∧ ∀ t : Tmp, (∀ i o, ops[i]? = some o → listed.getD i true = false → o.dst ≠ some t) → a'.tmps[t]? = a.tmps[t]?
  | 0, _, a, h => ⟨a, h.2, fun _ _ => rfl⟩
  | fuel + 1, listed, a, h => by
    by_cases hr : Region.ready md ops listed = []
    · exact ⟨a, h.1 hr, fun _ _ => rfl⟩
    · obtain ⟨i, hi⟩ := List.exists_mem_of_ne_nil _ hr
      obtain ⟨hun, o, ho, -⟩ := mem_ready.1 hi
      have h2 := h.2 i hi
      unfold qOp at h2
      simp only [ho] at h2
      have go : ∀ v, wpAnyQ P md ops C Q fuel (listed.setIfInBounds i true) (a.put o.dst v) → ∃ a', Q a' ∧ ∀ t : Tmp, (∀ i o, ops[i]? = some o → listed.getD i true = false → o.dst ≠ some t) → a'.tmps[t]? = a.tmps[t]? := by
        intro v h3
        obtain ⟨a', hq, hs⟩ := final_of_any fuel _ _ h3
        refine ⟨a', hq, fun t ht => ?_⟩
        rw [hs t (fun j p hj hun2 => ht j p hj ?_)]
        · cases hd : o.dst with
          | none => rfl
          | some t' => exact put_other a t t' v (fun e => ht i o ho hun (by rw [hd, e]))
        · by_cases hij : i = j
          · subst hij; exact hun
          · rw [getD_set_ne true hij] at hun2; exact hun2
      split at h2
      · obtain ⟨v, -, h3⟩ := h2; exact go v h3
      · exact go _ h2
theorem opsV_at {l : List Oper} {κ ζ : Nat} {oκ oζ : Oper} (hκ : l[κ]? = some oκ) (hζ : l[ζ]? = some oζ) (hne : κ < ζ) (v : Value) (j : Nat) :
    (opsV l κ ζ oκ oζ v).toArray[j]? = (l[j]?).map (fun o => if j = ζ then { o with op := .move (.const undef), dst := none } else if j = κ then { o with op := .move (.const v) } else o) := by
  have h1 := (List.getElem?_eq_some_iff.1 hκ).1
  have h2 := (List.getElem?_eq_some_iff.1 hζ).1
  unfold opsV
  rw [List.getElem?_toArray, List.getElem?_set, List.getElem?_set]
  by_cases e1 : j = ζ
  · subst e1
    have h5 : l[j] = oζ := by rw [List.getElem?_eq_getElem h2] at hζ; exact Option.some.inj hζ
    simp [h2, h5]
  · by_cases e2 : j = κ
    · subst e2
      have h5 : l[j] = oκ := by rw [List.getElem?_eq_getElem h1] at hκ; exact Option.some.inj hκ
      simp [h1, h5, e1, Ne.symm e1]
    · simp [e1, e2, Ne.symm e1, Ne.symm e2]
theorem opsV_after {l : List Oper} {κ ζ : Nat} {oκ oζ : Oper} (hκ : l[κ]? = some oκ) (hζ : l[ζ]? = some oζ) (hne : κ < ζ) (v : Value) (listed : Array Bool) (j : Nat) :
    j ∈ Region.ready md (opsV l κ ζ oκ oζ v).toArray listed ↔ j ∈ Region.ready md l.toArray listed := by
  rw [mem_ready, mem_ready, opsV_at hκ hζ hne, List.getElem?_toArray]
  refine and_congr_right fun _ => ?_
  cases l[j]? with
  | none => simp
  | some o =>
    simp only [Option.map_some, Option.some.injEq, exists_eq_left']
    split
    · rfl
    · split <;> rfl
theorem ready_ne {listed : Array Bool} (hacy : ∀ (i : Nat) (o : Oper), ops[i]? = some o → ∀ e ∈ o.after, e.on < i) (hsz : listed.size = ops.size) : ∀ i, i < ops.size → listed.getD i true = false → Region.ready md ops listed ≠ [] := by
  intro i
  induction i using Nat.strongRecOn with
  | ind i ih =>
    intro hi hun
    by_cases hall : ∀ e ∈ (ops[i]).after, listed.getD e.on false = true
    · intro h
      have : i ∈ Region.ready md ops listed := mem_ready.2 ⟨hun, ops[i], Array.getElem?_eq_getElem hi, fun e he _ => hall e he⟩
      rw [h] at this
      cases this
    · obtain ⟨e, he, hf⟩ : ∃ e, e ∈ (ops[i]).after ∧ ¬ listed.getD e.on false = true := Classical.byContradiction fun hn => hall fun e he => Classical.byContradiction fun hf => hn ⟨e, he, hf⟩
      have hlt := hacy i _ (Array.getElem?_eq_getElem hi) e he
      refine ih e.on hlt (by omega) ?_
      have hlt2 : e.on < listed.size := by omega
      simp [Array.getD, hlt2] at hf ⊢
      exact hf
theorem phase2 {Q : Exit → Act → World → Prop} {a : Act} {w : World} (hq : Q .normal a w) : ∀ (fuel : Nat) (listed : Array Bool), Region.ready md ops listed = [] → wpAny P md ops Q fuel listed a w
  | 0, _, h => ⟨h, hq⟩
  | _ + 1, _, h => ⟨fun _ => hq, fun i hi => by rw [h] at hi; cases hi⟩
/-- What the rule asks, laid open. -/
structure RegionIs (md : Region.Mode) (l : List Oper) (κ ζ : Nat) (oκ oζ : Oper) (xs : Array Operand) : Prop where
  call : l[κ]? = some oκ
  store : l[ζ]? = some oζ
  ne : κ < ζ
  len : ζ + 1 = l.length
  free : oζ.dst = none
  each : ∀ (i : Nat) (o : Oper), l[i]? = some o → o.guard = none ∧ (i = κ ∨ i = ζ ∨ plainOp o.op = true) ∧ (∀ e ∈ o.after, e.on < i) ∧ (∀ t, o.dst = some t → (∃ e ∈ oκ.after, e.on = i ∧ Region.binds md e = true) ∨ ∀ x ∈ xs, slotB x t = false)
  last : ∀ i : Nat, i < ζ → ∃ e ∈ oζ.after, e.on = i ∧ Region.binds md e = true
theorem wanted_of {o : Oper} (h : o.guard = none) (y : Nat → Option Bool) : Region.wanted o y = true := by simp [Region.wanted, h]

theorem all_listed {l : List Oper} {κ ζ : Nat} {oκ oζ : Oper} {xs : Array Operand} (hR : RegionIs md l κ ζ oκ oζ xs) {listed : Array Bool} (hz : ζ ∈ Region.ready md l.toArray listed) (i : Nat) (hi : i < ζ) : listed.getD i false = true := by
  obtain ⟨-, o, ho, hall⟩ := mem_ready.1 hz
  obtain rfl : o = oζ := by rw [List.getElem?_toArray, hR.store] at ho; exact (Option.some.inj ho).symm
  obtain ⟨e, he, rfl, hb⟩ := hR.last i hi
  exact hall e he hb
theorem done_of {l : List Oper} {κ ζ : Nat} {oκ oζ : Oper} {xs : Array Operand} (hR : RegionIs md l κ ζ oκ oζ xs) {listed : Array Bool} (hz : ζ ∈ Region.ready md l.toArray listed) : Region.ready md l.toArray (listed.setIfInBounds ζ true) = [] := by
  refine List.eq_nil_iff_forall_not_mem.2 fun j hj => ?_
  obtain ⟨hun, o, ho, -⟩ := mem_ready.1 hj
  have hjl : j < l.length := by
    have := (Array.getElem?_eq_some_iff.1 ho).1
    simpa using this
  by_cases e : ζ = j
  · subst e
    rcases Nat.lt_or_ge ζ listed.size with h | h
    · simp [Array.getD, h] at hun
    · simp [Array.getD, Nat.not_lt.2 h] at hun
  · rw [getD_set_ne true e] at hun
    have := all_listed hR hz j (by have := hR.len; omega)
    rcases Nat.lt_or_ge j listed.size with h | h
    · simp [Array.getD, h] at hun this; rw [hun] at this; cases this
    · simp [Array.getD, Nat.not_lt.2 h] at this
/-- A plain operation, quiet in a class: one value, the world as it is. -/
theorem plain_run {o : Oper} {a : Act} {w : World} {v : Value} (hp : plainOp o.op = true) (h : o.quietAt P a C w v) : (execOp a.eval o).run P w = .ok (.value v) w ∨ (v = undef ∧ (execOp a.eval o).run P w = .ok .skip w) := by
  unfold Oper.quietAt at h
  cases hr : (execOp a.eval o).run P w with
  | ok n w' =>
    rw [hr] at h
    cases n <;> simp only [Oper.quietUpon] at h
    case value u => obtain ⟨rfl, rfl⟩ := h; exact .inl rfl
    case skip => obtain ⟨rfl, rfl⟩ := h; exact .inr ⟨rfl, rfl⟩
    case enter f args => exact absurd hr (plain_noEnter hp w w' f args)
  | halt x w' =>
    rw [hr] at h
    simp only [Oper.quietUpon] at h
theorem wp_of_run {o : Oper} {a : Act} {w : World} {v : Value} {K : Act → World → Prop} {Q : Exit → Act → World → Prop} (h : (execOp a.eval o).run P w = .ok (.value v) w ∨ (v = undef ∧ (execOp a.eval o).run P w = .ok .skip w)) (hk : K (a.put o.dst v) w) : o.wp P a w K Q := by
  unfold Oper.wp
  rcases h with h | ⟨rfl, h⟩
  · rw [h]; exact hk
  · rw [h]; exact hk
/-- What is left of an operation that comes up. -/
theorem quiet_at {l : List Oper} {i : Nat} {o : Oper} {a : Act} {K : Act → Prop} {ops' : Array Oper} (ho : ops'[i]? = some o) (hg : o.guard = none) (h : qOp P ops' C i K a) : ∃ v, (∀ w, C w → o.quietAt P a C w v) ∧ K (a.put o.dst v) := by
  unfold qOp at h
  simp only [ho, wanted_of hg, if_true] at h
  exact h
theorem phase1 {l : List Oper} {κ ζ : Nat} {oκ oζ : Oper} {xs : Array Operand} (hR : RegionIs md l κ ζ oκ oζ xs) {Q : Exit → Act → World → Prop} {v : Value} {w6 : World} (hC : C w6) (Q1 : Act → Prop) (hQ1 : ∀ a, Q1 a → ∃ wF, (execOp a.eval oζ).run P w6 = .ok .skip wF ∧ Q .normal a wF) :
    ∀ (fuel : Nat) (listed : Array Bool) (a : Act), listed.size = l.length → listed.getD κ true = true → listed.getD ζ true = false → wpAnyQ P md (opsV l κ ζ oκ oζ v).toArray C Q1 fuel listed a → wpAny P md l.toArray Q fuel listed a w6 := by
  intro fuel
  have hlz : ζ < l.length := by have := hR.len; omega
  have hnr : ∀ listed : Array Bool, listed.size = l.length → listed.getD ζ true = false → Region.ready md l.toArray listed ≠ [] := fun listed hs hz => ready_ne (fun i o h e he => (hR.each i o (by simpa using h)).2.2.1 e he) (by simpa using hs) ζ (by simpa using hlz) hz
  have hemp : ∀ listed : Array Bool, Region.ready md (opsV l κ ζ oκ oζ v).toArray listed = [] → Region.ready md l.toArray listed = [] := fun listed h => List.eq_nil_iff_forall_not_mem.2 fun j hj => by
    rw [← opsV_after hR.call hR.store hR.ne v] at hj; rw [h] at hj; cases hj
  have hemp2 : ∀ listed : Array Bool, Region.ready md l.toArray listed = [] → Region.ready md (opsV l κ ζ oκ oζ v).toArray listed = [] := fun listed h => List.eq_nil_iff_forall_not_mem.2 fun j hj => by
    rw [opsV_after hR.call hR.store hR.ne v] at hj; rw [h] at hj; cases hj
  induction fuel with
  | zero =>
    intro listed a hs _ hz h
    exact absurd (hemp _ h.1) (hnr listed hs hz)
  | succ fuel ih =>
    intro listed a hs hk hz h
    refine ⟨fun h0 => absurd h0 (hnr listed hs hz), fun i hi => ?_⟩
    have h2 := h.2 i ((opsV_after hR.call hR.store hR.ne v listed i).2 hi)
    obtain ⟨hun, o, ho, -⟩ := mem_ready.1 hi
    rw [List.getElem?_toArray] at ho
    obtain ⟨hg, hcase, -, -⟩ := hR.each i o ho
    have hat := opsV_at hR.call hR.store hR.ne v i
    rw [ho, Option.map_some] at hat
    unfold wpOp
    simp only [List.getElem?_toArray, ho, wanted_of hg, if_true]
    left
    by_cases ez : i = ζ
    · subst ez
      obtain rfl : o = oζ := by rw [hR.store] at ho; exact (Option.some.inj ho).symm
      rw [if_pos rfl] at hat
      obtain ⟨u, -, hK⟩ := quiet_at (l := l) hat hg h2
      rw [put_none] at hK
      have hd := done_of hR hi
      have hq : Q1 a := by
        cases fuel with
        | zero => exact hK.2
        | succ f => exact hK.1 (hemp2 _ hd)
      obtain ⟨wF, hr, hq2⟩ := hQ1 a hq
      unfold Oper.wp
      rw [hr]
      show wpAny P md l.toArray Q fuel (listed.setIfInBounds i true) (a.put o.dst undef) wF
      rw [hR.free, put_none]
      exact phase2 hq2 _ _ hd
    · have ek : i ≠ κ := fun e => by rw [e, hk] at hun; cases hun
      rw [if_neg ez, if_neg ek] at hat
      have hp : plainOp o.op = true := by
        rcases hcase with h | h | h
        · exact absurd h ek
        · exact absurd h ez
        · exact h
      obtain ⟨u, hu, hK⟩ := quiet_at (l := l) hat hg h2
      refine wp_of_run (plain_run hp (hu w6 hC)) (ih _ _ (by simpa using hs) ?_ ?_ hK)
      · rw [getD_set_ne true ek]; exact hk
      · rw [getD_set_ne true ez]; exact hz
theorem eval_same {a a' : Act} {x : Operand} (h : ∀ t, slotB x t = true → a'.tmps[t]? = a.tmps[t]?) : a'.eval x = a.eval x := by
  cases x with
  | tmp t =>
    have := h t (by simp [slotB])
    simp only [Act.eval, Array.getD_eq_getD_getElem?, this]
  | const v => rfl
  | global g => rfl
  | func f => rfl
theorem phase0 {l : List Oper} {κ ζ : Nat} {oκ oζ : Oper} {xs : Array Operand} (hR : RegionIs md l κ ζ oκ oζ xs) {Q : Exit → Act → World → Prop} {W0 : World} (hC : C W0) (f : FuncId) (args : Array Value) (hrun : ∀ a : Act, (execOp a.eval oκ).run P W0 = .ok (.enter f (xs.map a.eval)) W0)
    (Post : Value → World → Prop) (hC1 : ∀ v w6, Post v w6 → C w6) (hcall : Calls P f args W0 fun e w' => ∃ v, e = .returned v ∧ Post v w') (Q1 : Value → World → Act → Prop)
    (hQ1 : ∀ v w6 a, Post v w6 → Q1 v w6 a → xs.map a.eval = args ∧ ∃ wF, (execOp a.eval oζ).run P w6 = .ok .skip wF ∧ Q .normal a wF) :
    ∀ (fuel : Nat) (listed : Array Bool) (a : Act), listed.size = l.length → listed.getD κ true = false → listed.getD ζ true = false → (∀ v w6, Post v w6 → wpAnyQ P md (opsV l κ ζ oκ oζ v).toArray C (Q1 v w6) fuel listed a) → wpAny P md l.toArray Q fuel listed a W0 := by
  intro fuel
  have hlk : κ < l.length := by have := hR.len; have := hR.ne; omega
  obtain ⟨e0, w0, fr, ⟨v0, -, hp0⟩, -⟩ := hcall []
  have hnr : ∀ listed : Array Bool, listed.size = l.length → listed.getD κ true = false → Region.ready md l.toArray listed ≠ [] := fun listed hs hz => ready_ne (fun i o h e he => (hR.each i o (by simpa using h)).2.2.1 e he) (by simpa using hs) κ (by simpa using hlk) hz
  have hemp : ∀ (v : Value) (listed : Array Bool), Region.ready md (opsV l κ ζ oκ oζ v).toArray listed = [] → Region.ready md l.toArray listed = [] := fun v listed h => List.eq_nil_iff_forall_not_mem.2 fun j hj => by
    rw [← opsV_after hR.call hR.store hR.ne v] at hj; rw [h] at hj; cases hj
  induction fuel with
  | zero =>
    intro listed a hs hk _ h
    exact absurd (hemp v0 _ (h v0 w0 hp0).1) (hnr listed hs hk)
  | succ fuel ih =>
    intro listed a hs hk hz h
    refine ⟨fun h0 => absurd h0 (hnr listed hs hk), fun i hi => ?_⟩
    have h2 := fun v w6 hp => (h v w6 hp).2 i ((opsV_after hR.call hR.store hR.ne v listed i).2 hi)
    obtain ⟨hun, o, ho, hdeps⟩ := mem_ready.1 hi
    rw [List.getElem?_toArray] at ho
    obtain ⟨hg, hcase, -, -⟩ := hR.each i o ho
    have hat := fun v => opsV_at hR.call hR.store hR.ne v i
    simp only [ho, Option.map_some] at hat
    have ez : i ≠ ζ := fun e => by
      subst e
      have := all_listed hR hi κ hR.ne
      have hlt : κ < listed.size := by omega
      simp [Array.getD, hlt] at this hk
      rw [hk] at this; cases this
    unfold wpOp
    simp only [List.getElem?_toArray, ho, wanted_of hg, if_true]
    left
    by_cases ek : i = κ
    · subst ek
      obtain rfl : o = oκ := by rw [hR.call] at ho; exact (Option.some.inj ho).symm
      have hargs : xs.map a.eval = args := by
        obtain ⟨a', hq, hsame⟩ := final_of_any _ _ _ (h v0 w0 hp0)
        rw [← (hQ1 v0 w0 a' hp0 hq).1]
        refine Array.map_congr_left fun x hx => (eval_same fun t ht => hsame t fun j p hj hjun hd => ?_).symm
        rw [opsV_at hR.call hR.store hR.ne, Option.map_eq_some_iff] at hj
        obtain ⟨q, hq1, hq2⟩ := hj
        have hqd : q.dst = some t := by
          by_cases e1 : j = ζ
          · rw [if_pos e1] at hq2; subst hq2; cases hd
          · rw [if_neg e1] at hq2
            by_cases e2 : j = i
            · rw [if_pos e2] at hq2; subst hq2; exact hd
            · rw [if_neg e2] at hq2; subst hq2; exact hd
        rcases (hR.each j q hq1).2.2.2 t hqd with ⟨e, he, e1, hb⟩ | h9
        · have h8 := hdeps e he hb
          rw [e1] at h8
          have hlt : j < listed.size := by rw [hs]; exact (List.getElem?_eq_some_iff.1 hq1).1
          simp [Array.getD, hlt] at h8 hjun
          rw [hjun] at h8; cases h8
        · rw [h9 x hx] at ht; cases ht
      unfold Oper.wp
      rw [hrun a, hargs]
      refine hcall.mono ?_
      rintro e w6 ⟨v, rfl, hp⟩
      have hat2 := hat v
      rw [if_neg ez, if_pos rfl] at hat2
      obtain ⟨u, hu, hK⟩ := quiet_at (l := l) hat2 hg (h2 v w6 hp)
      obtain rfl : v = u := by
        have := hu W0 hC
        unfold Oper.quietAt execOp at this
        simp only [Sem.run_pure, Oper.quietUpon] at this
        exact this.2
      refine phase1 hR (hC1 v w6 hp) (Q1 v w6) (fun a hq => (hQ1 v w6 a hp hq).2) fuel _ _ (by simpa using hs) ?_ ?_ hK
      · have hlt : i < listed.size := by omega
        simp [Array.getD, hlt]
      · rw [getD_set_ne true ez]; exact hz
    · have hp : plainOp o.op = true := by
        rcases hcase with h | h | h
        · exact absurd h ek
        · exact absurd h ez
        · exact h
      simp only [if_neg ez, if_neg ek] at hat
      obtain ⟨u, hu, -⟩ := quiet_at (l := l) (hat v0) hg (h2 v0 w0 hp0)
      have hr := plain_run hp (hu W0 hC)
      refine wp_of_run hr (ih _ _ (by simpa using hs) ?_ ?_ fun v w6 hpost => ?_)
      · rw [getD_set_ne true ek]; exact hk
      · rw [getD_set_ne true ez]; exact hz
      · obtain ⟨u', hu', hK'⟩ := quiet_at (l := l) (hat v) hg (h2 v w6 hpost)
        have hr' := plain_run hp (hu' W0 hC)
        have : u' = u := by
          rcases hr with h1 | ⟨e1, h1⟩ <;> rcases hr' with h3 | ⟨e3, h3⟩
          · rw [h1] at h3; cases h3; rfl
          · rw [h1] at h3; cases h3
          · rw [h1] at h3; cases h3
          · rw [e1, e3]
        rw [← this]; exact hK'
end
/-- The question to the text of the region, by reckoning. -/
def regionB (κ ζ : Nat) (xs : Array Operand) (l : List Oper) : Bool :=
  match l[κ]?, l[ζ]? with
  | some oκ, some oζ => decide (κ < ζ) && decide (ζ + 1 = l.length) && oζ.dst.isNone && chkOps κ ζ xs (fun i => oκ.after.any fun e => e.on == i && Region.binds .any e) 0 l && (List.range ζ).all (fun i => oζ.after.any fun e => e.on == i && Region.binds .any e)
  | _, _ => false
theorem regionIs_of {κ ζ : Nat} {xs : Array Operand} {l : List Oper} {oκ oζ : Oper} (hκ : l[κ]? = some oκ) (hζ : l[ζ]? = some oζ) (h : regionB κ ζ xs l = true) : RegionIs .any l κ ζ oκ oζ xs := by
  unfold regionB at h
  rw [hκ, hζ] at h
  simp only [Bool.and_eq_true, decide_eq_true_eq] at h
  obtain ⟨⟨⟨⟨h1, h2⟩, h3⟩, h4⟩, h5⟩ := h
  refine ⟨hκ, hζ, h1, h2, Option.isNone_iff_eq_none.1 h3, fun i o ho => ?_, fun i hi => ?_⟩
  · obtain ⟨g1, g2, g3, g4⟩ := chk_at l 0 h4 i o ho
    rw [Nat.zero_add] at g2 g3 g4
    refine ⟨g1, g2, g3, fun t ht => ?_⟩
    rcases g4 t ht with g | g
    · obtain ⟨e, he, hb⟩ := Array.any_eq_true'.1 g
      simp only [Bool.and_eq_true, beq_iff_eq] at hb
      exact .inl ⟨e, he, hb.1, hb.2⟩
    · exact .inr g
  · have := List.all_eq_true.1 h5 i (List.mem_range.2 hi)
    obtain ⟨e, he, hb⟩ := Array.any_eq_true'.1 this
    simp only [Bool.and_eq_true, beq_iff_eq] at hb
    exact ⟨e, he, hb.1, hb.2⟩
theorem wp_region_call {P : Program} {id : Nat} {Q : Exit → Act → World → Prop} {a : Act} {w : World} {l : List Oper} (κ ζ : Nat) (xs : Array Operand) (f : FuncId) {oκ oζ : Oper} (hκ : l[κ]? = some oκ) (hζ : l[ζ]? = some oζ) (hreg : regionB κ ζ xs l = true) (hm : P.follows .mixedOrders = true) (hB : ∀ v, Region.lexB .any (opsV l κ ζ oκ oζ v).toArray = true)
    (hrun : ∀ a : Act, (execOp a.eval oκ).run P w.drew = .ok (.enter f (xs.map a.eval)) w.drew) (C : World → Prop) (args : Array Value) (Post : Value → World → Prop) (hC : C w.drew) (hC1 : ∀ v w6, Post v w6 → C w6) (hcall : Calls P f args w.drew fun e w' => ∃ v, e = .returned v ∧ Post v w')
    (h : ∀ v w6, Post v w6 → wpQuiet P (opsV l κ ζ oκ oζ v).toArray C (fun a => xs.map a.eval = args ∧ ∃ wF, (execOp a.eval oζ).run P w6 = .ok .skip wF ∧ Q .normal a wF) (opsV l κ ζ oκ oζ v) a) : (Code.region id l.toArray true).wp P Q a w := by
  have hR := regionIs_of hκ hζ hreg
  have hlen : ∀ v, (opsV l κ ζ oκ oζ v).length = l.length := fun v => by simp [opsV]
  refine wp_region_any hm ?_
  have := hR.len
  have := hR.ne
  refine phase0 hR (C := C) hC f args hrun Post hC1 hcall (fun v w6 a => xs.map a.eval = args ∧ ∃ wF, (execOp a.eval oζ).run P w6 = .ok .skip wF ∧ Q .normal a wF) (fun _ _ _ _ hq => hq) _ _ _ (by simp) ?_ ?_ fun v w6 hp => ?_
  · simp [Array.getD]; omega
  · simp [Array.getD]; omega
  · have hb := hB v
    simp only [Region.lexB, Bool.and_eq_true] at hb
    have h5 := wpAnyQ_lex (C := C) (md := .any) hb.1 (opsV l κ ζ oκ oζ v) 0 (Array.replicate (opsV l κ ζ oκ oζ v).toArray.size false) a (by simp) (by simpa using hb.2) (h v w6 hp)
    simpa [hlen] using h5
/-- A world of a class. -/
structure Among (C : World → Prop) where
  w : World
  ok : C w
end Go.Proofs.Ytkjejmikcgjnaaa
