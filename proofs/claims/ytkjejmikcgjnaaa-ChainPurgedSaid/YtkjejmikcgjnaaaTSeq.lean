/- A region that draws its order, in which some operations that change memory stand in a forced row, and all others are plain: walked once in the order of the text. No condition. -/
import Derived.Test.YtkjejmikcgjnaaaTCall
namespace Go.Proofs.Ytkjejmikcgjnaaa
open Go.RowKit

def posOf : List Nat → Nat → Option Nat
  | [], _ => none
  | s :: r, i => if s = i then some 0 else (posOf r i).map (· + 1)
def dum (sp : List Nat) (vs : List Value) (i : Nat) (o : Oper) : Oper := match posOf sp i with
  | none => o
  | some j => { o with op := .move (.const (vs.getD j undef)) }
def opsSeq (sp : List Nat) (vs : List Value) : Nat → List Oper → List Oper
  | _, [] => []
  | k, o :: r => dum sp vs k o :: opsSeq sp vs (k + 1) r
theorem opsSeq_at (sp : List Nat) (vs : List Value) : ∀ (l : List Oper) (k i : Nat), (opsSeq sp vs k l)[i]? = (l[i]?).map (dum sp vs (k + i))
  | [], _, i => by simp [opsSeq]
  | o :: r, k, i => by
    cases i with
    | zero => simp [opsSeq]
    | succ i =>
      have := opsSeq_at sp vs r (k + 1) i
      rw [show k + 1 + i = k + (i + 1) by omega] at this
      simpa [opsSeq] using this
theorem dum_after (sp : List Nat) (vs : List Value) (i : Nat) (o : Oper) : (dum sp vs i o).after = o.after ∧ (dum sp vs i o).guard = o.guard ∧ (dum sp vs i o).dst = o.dst := by
  unfold dum
  split <;> exact ⟨rfl, rfl, rfl⟩
theorem posOf_at : ∀ (sp : List Nat) (i j : Nat), posOf sp i = some j → sp[j]? = some i
  | [], _, _, h => by cases h
  | s :: r, i, j, h => by
    unfold posOf at h
    split at h
    · rename_i e; cases h; simp [e]
    · rename_i e
      rw [Option.map_eq_some_iff] at h
      obtain ⟨j', h1, rfl⟩ := h
      have := posOf_at r i j' h1
      simpa using this
theorem posOf_mem : ∀ (sp : List Nat) (i : Nat), posOf sp i = none → i ∉ sp
  | [], _, _ => by simp
  | s :: r, i, h => by
    unfold posOf at h
    split at h
    · cases h
    · rename_i e
      rw [Option.map_eq_none_iff] at h
      have := posOf_mem r i h
      simp only [List.mem_cons, not_or]
      exact ⟨fun e2 => e e2.symm, this⟩
/-- Does number i wait on number t, at once or by others? -/
def reachB (l : List Oper) (t : Nat) : Nat → Nat → Bool
  | 0, _ => false
  | f + 1, i => match l[i]? with
    | none => false
    | some o => o.after.any fun e => Region.binds .any e && (e.on == t || reachB l t f e.on)
theorem reach_listed {l : List Oper} {t : Nat} {listed : Array Bool} (hdc : ∀ (i : Nat) (o : Oper), l[i]? = some o → listed.getD i false = true → ∀ e ∈ o.after, Region.binds .any e = true → listed.getD e.on false = true) :
    ∀ (f i : Nat) (o : Oper), l[i]? = some o → (∀ e ∈ o.after, Region.binds .any e = true → listed.getD e.on false = true) → reachB l t f i = true → listed.getD t false = true
  | 0, _, _, _, _, h => by cases h
  | f + 1, i, o, ho, hall, h => by
    unfold reachB at h
    rw [ho] at h
    obtain ⟨e, he, h2⟩ := Array.any_eq_true'.1 h
    simp only [Bool.and_eq_true, Bool.or_eq_true, beq_iff_eq] at h2
    obtain ⟨hb, h3⟩ := h2
    have hl := hall e he hb
    rcases h3 with h3 | h3
    · rw [← h3]; exact hl
    · have : ∃ q, l[e.on]? = some q := by
        cases f with
        | zero => cases h3
        | succ f =>
          unfold reachB at h3
          cases hq : l[e.on]? with
          | none => rw [hq] at h3; cases h3
          | some q => exact ⟨q, rfl⟩
      obtain ⟨q, hq⟩ := this
      exact reach_listed hdc f e.on q hq (hdc e.on q hq hl) h3
/-- What the rule asks of the text. -/
structure SeqIs (l : List Oper) (sp : List Nat) (xs : Nat → Array Operand) : Prop where
  each : ∀ (i : Nat) (o : Oper), l[i]? = some o → o.guard = none ∧ (i ∈ sp ∨ plainOp o.op = true) ∧ (∀ e ∈ o.after, e.on < i)
  row : ∀ t j : Nat, j < t → t < sp.length → reachB l (sp.getD j 0) l.length (sp.getD t 0) = true
  reads : ∀ (j : Nat) (oj : Oper), j < sp.length → l[sp.getD j 0]? = some oj → ∀ (i : Nat) (o : Oper), l[i]? = some o → ∀ t, o.dst = some t → (∃ e ∈ oj.after, e.on = i ∧ Region.binds .any e = true) ∨ ∀ x ∈ xs j, slotB x t = false
  within : ∀ s ∈ sp, s < l.length
  last : ∀ i : Nat, i < l.length → i ∉ sp → 0 < sp.length ∧ reachB l i l.length (sp.getD (sp.length - 1) 0) = true

def FinB (P : Program) (Q : Exit → Act → World → Prop) (m : Nat) (xs : Nat → Array Operand) (args : Nat → List Value → Array Value) (vs : List Value) (w : World) (a : Act) : Prop := (∀ j, j < m → (xs j).map a.eval = args j (vs.take j)) ∧ Q .normal a w

section
variable {P : Program} {l : List Oper} {sp : List Nat} {xs : Nat → Array Operand} {C : World → Prop} {Q : Exit → Act → World → Prop} {args : Nat → List Value → Array Value} {Post : Nat → List Value → World → Prop}
theorem seq_full (hext : ∀ j vs w, Post j vs w → j < sp.length → ∃ v w', Post (j + 1) (vs ++ [v]) w') : ∀ (k j : Nat) (vs : List Value) (w : World), k + j = sp.length → Post j vs w → ∃ us w', Post sp.length (vs ++ us) w'
  | 0, j, vs, w, hk, h => ⟨[], w, by rw [List.append_nil, ← hk, Nat.zero_add]; exact h⟩
  | k + 1, j, vs, w, hk, h => by
    obtain ⟨v, w', h2⟩ := hext j vs w h (by omega)
    obtain ⟨us, w2, h3⟩ := seq_full hext k (j + 1) (vs ++ [v]) w' (by omega) h2
    exact ⟨v :: us, w2, by simpa using h3⟩
theorem seq_phase (hS : SeqIs l sp xs) (hC : ∀ j vs w, Post j vs w → j < sp.length → C w) (hlen : ∀ j vs w, Post j vs w → vs.length = j) (hext : ∀ j vs w, Post j vs w → j < sp.length → ∃ v w', Post (j + 1) (vs ++ [v]) w')
    (hstep : ∀ j vs w o, Post j vs w → j < sp.length → l[sp.getD j 0]? = some o → ∀ (a : Act) (next : Act → World → Prop), (xs j).map a.eval = args j vs → (∀ v w', Post (j + 1) (vs ++ [v]) w' → next (a.put o.dst v) w') → o.wp P a w next Q) :
    ∀ (fuel : Nat) (listed : Array Bool) (a : Act) (j : Nat) (vs : List Value) (w : World), Post j vs w → j ≤ sp.length → listed.size = l.length → (∀ t, t < sp.length → (listed.getD (sp.getD t 0) true = true ↔ t < j)) →
      (∀ (i : Nat) (o : Oper), l[i]? = some o → listed.getD i false = true → ∀ e ∈ o.after, Region.binds .any e = true → listed.getD e.on false = true) →
      (∀ us w', Post sp.length (vs ++ us) w' → wpAnyQ P .any (opsSeq sp (vs ++ us) 0 l).toArray C (FinB P Q sp.length xs args (vs ++ us) w') fuel listed a) → wpAny P .any l.toArray Q fuel listed a w := by
  intro fuel
  have hrdy : ∀ (vs : List Value) (listed : Array Bool) (i : Nat), i ∈ Region.ready .any (opsSeq sp vs 0 l).toArray listed ↔ i ∈ Region.ready .any l.toArray listed := by
    intro vs listed i
    rw [mem_ready, mem_ready, List.getElem?_toArray, List.getElem?_toArray, opsSeq_at]
    refine and_congr_right fun _ => ?_
    cases l[i]? with
    | none => simp
    | some o =>
      simp only [Option.map_some, Option.some.injEq, exists_eq_left']
      rw [(dum_after sp vs (0 + i) o).1]
  have hemp : ∀ (vs : List Value) (listed : Array Bool), Region.ready .any (opsSeq sp vs 0 l).toArray listed = [] → Region.ready .any l.toArray listed = [] := fun vs listed h => List.eq_nil_iff_forall_not_mem.2 fun i hi => by
    rw [← hrdy vs] at hi; rw [h] at hi; cases hi
  have hemp2 : ∀ (vs : List Value) (listed : Array Bool), Region.ready .any l.toArray listed = [] → Region.ready .any (opsSeq sp vs 0 l).toArray listed = [] := fun vs listed h => List.eq_nil_iff_forall_not_mem.2 fun i hi => by
    rw [hrdy vs] at hi; rw [h] at hi; cases hi
  have hnr : ∀ (listed : Array Bool) (j : Nat), listed.size = l.length → j < sp.length → listed.getD (sp.getD j 0) true = false → Region.ready .any l.toArray listed ≠ [] := fun listed j hs hj hz => ready_ne (fun i o h e he => (hS.each i o (by simpa using h)).2.2 e he) (by simpa using hs) (sp.getD j 0) (by
    have := hS.within (sp.getD j 0) (by rw [List.getD, List.getElem?_eq_getElem hj]; exact List.getElem_mem hj)
    simpa using this) hz
  have hun : ∀ (listed : Array Bool) (j : Nat), (∀ t, t < sp.length → (listed.getD (sp.getD t 0) true = true ↔ t < j)) → j < sp.length → listed.getD (sp.getD j 0) true = false := fun listed j h hj => by
    cases hb : listed.getD (sp.getD j 0) true with
    | false => rfl
    | true => exact absurd ((h j hj).1 hb) (Nat.lt_irrefl j)
  induction fuel with
  | zero =>
    intro listed a j vs w hp hj hs hst hdc h
    obtain ⟨us, w', hf⟩ := seq_full hext (sp.length - j) j vs w (by omega) hp
    rcases Nat.lt_or_ge j sp.length with hlt | hge
    · exact absurd (hemp _ _ (h us w' hf).1) (hnr listed j hs hlt (hun listed j hst hlt))
    · obtain rfl : j = sp.length := by omega
      have h2 := h [] w (by rw [List.append_nil]; exact hp)
      exact ⟨hemp _ _ h2.1, h2.2.2⟩
  | succ fuel ih =>
    intro listed a j vs w hp hj hs hst hdc h
    obtain ⟨us0, w0, hf0⟩ := seq_full hext (sp.length - j) j vs w (by omega) hp
    refine ⟨fun h0 => ?_, fun i hi => ?_⟩
    · rcases Nat.lt_or_ge j sp.length with hlt | hge
      · exact absurd h0 (hnr listed j hs hlt (hun listed j hst hlt))
      · obtain rfl : j = sp.length := by omega
        exact ((h [] w (by rw [List.append_nil]; exact hp)).1 (hemp2 _ _ h0)).2
    · have h2 := fun us w' hf => (h us w' hf).2 i ((hrdy (vs ++ us) listed i).2 hi)
      obtain ⟨hunl, o, ho, hdeps⟩ := mem_ready.1 hi
      rw [List.getElem?_toArray] at ho
      obtain ⟨hg, hcase, -⟩ := hS.each i o ho
      have hil : i < listed.size := by rw [hs]; exact (List.getElem?_eq_some_iff.1 ho).1
      have hdc2 : ∀ (k : Nat) (q : Oper), l[k]? = some q → (listed.setIfInBounds i true).getD k false = true → ∀ e ∈ q.after, Region.binds .any e = true → (listed.setIfInBounds i true).getD e.on false = true := by
        intro k q hq hk e he hb
        by_cases e1 : i = k
        · subst e1
          rw [ho] at hq
          obtain rfl := Option.some.inj hq
          exact getD_set_true (hdeps e he hb)
        · rw [getD_set_ne false e1] at hk
          exact getD_set_true (hdc k q hq hk e he hb)
      unfold wpOp
      simp only [List.getElem?_toArray, ho, wanted_of hg, if_true]
      left
      cases hpos : posOf sp i with
      | some t =>
        have hsp := posOf_at sp i t hpos
        have htl : t < sp.length := (List.getElem?_eq_some_iff.1 hsp).1
        have hsg : sp.getD t 0 = i := by rw [List.getD, hsp]; rfl
        have htj : ¬ t < j := fun hlt => by
          have := (hst t htl).2 hlt
          rw [hsg, hunl] at this; cases this
        have hjt : ¬ j < t := fun hlt => by
          have h3 := reach_listed hdc l.length i o ho hdeps (by rw [← hsg]; exact hS.row t j hlt htl)
          have h4 := hun listed j hst (by omega)
          have hjl : sp.getD j 0 < listed.size := by
            rw [hs]
            exact hS.within _ (by rw [List.getD, List.getElem?_eq_getElem (show j < sp.length by omega)]; exact List.getElem_mem _)
          have h5 : listed.getD (sp.getD j 0) false = listed.getD (sp.getD j 0) true := by simp only [Array.getD, hjl, dite_true]
          rw [h5, h4] at h3; cases h3
        obtain rfl : t = j := by omega
        have hargs : (xs t).map a.eval = args t vs := by
          obtain ⟨a', hq, hsame⟩ := final_of_any _ _ _ (h us0 w0 hf0)
          have h6 := hq.1 t htl
          rw [List.take_left' (hlen _ _ _ hp)] at h6
          rw [← h6]
          refine Array.map_congr_left fun x hx => (eval_same fun u hu => hsame u fun k q hk hkun hd => ?_).symm
          rw [List.getElem?_toArray, opsSeq_at, Option.map_eq_some_iff] at hk
          obtain ⟨q0, hq0, rfl⟩ := hk
          rw [(dum_after sp _ _ q0).2.2] at hd
          rcases hS.reads t o htl (by rw [hsg]; exact ho) k q0 hq0 u hd with ⟨e, he, e1, hb⟩ | h9
          · have h8 := hdeps e he hb
            rw [e1] at h8
            have hlt : k < listed.size := by rw [hs]; exact (List.getElem?_eq_some_iff.1 hq0).1
            simp [Array.getD, hlt] at h8 hkun
            rw [hkun] at h8; cases h8
          · rw [h9 x hx] at hu; cases hu
        refine hstep t vs w o hp htl (by rw [hsg]; exact ho) a _ hargs fun v w' hp2 => ?_
        refine ih _ _ (t + 1) (vs ++ [v]) w' hp2 (by omega) (by simpa using hs) ?_ hdc2 fun us w2 hf => ?_
        · intro k hk
          by_cases e1 : i = sp.getD k 0
          · have e2 : k = t := by
              rcases Nat.lt_trichotomy k t with h5 | h5 | h5
              · have := (hst k hk).2 h5
                rw [← e1, hunl] at this; cases this
              · exact h5
              · have h7 := hS.row k t h5 hk
                rw [← e1, hsg] at h7
                have h8 := reach_listed hdc l.length i o ho hdeps h7
                simp [Array.getD, hil] at h8 hunl
                rw [hunl] at h8; cases h8
            subst e2
            rw [← e1]
            simp [Array.getD, hil]
          · rw [getD_set_ne true e1, hst k hk]
            have : k ≠ t := fun e2 => e1 (by rw [e2, hsg])
            omega
        · have hf' : Post sp.length (vs ++ (v :: us)) w2 := by simpa using hf
          have h3 := h2 (v :: us) w2 hf'
          have hat : (opsSeq sp (vs ++ v :: us) 0 l).toArray[i]? = some { o with op := .move (.const v) } := by
            rw [List.getElem?_toArray, opsSeq_at, ho, Option.map_some, Nat.zero_add]
            unfold dum
            rw [hpos]
            dsimp only
            rw [List.getD, List.getElem?_append_right (by rw [hlen _ _ _ hp]; exact Nat.le_refl _), hlen _ _ _ hp]
            simp
          obtain ⟨u, hu, hK⟩ := quiet_at (l := l) hat hg h3
          obtain rfl : v = u := by
            have := hu w (hC _ _ _ hp htl)
            unfold Oper.quietAt execOp at this
            simp only [Sem.run_pure, Oper.quietUpon] at this
            exact this.2
          rw [show vs ++ [v] ++ us = vs ++ (v :: us) by simp]
          exact hK
      | none =>
        have hns := posOf_mem sp i hpos
        have hpl : plainOp o.op = true := hcase.resolve_left hns
        have hat : ∀ us, (opsSeq sp (vs ++ us) 0 l).toArray[i]? = some o := fun us => by
          rw [List.getElem?_toArray, opsSeq_at, ho, Option.map_some, Nat.zero_add]
          unfold dum
          rw [hpos]
        obtain ⟨u, hu, -⟩ := quiet_at (l := l) (hat us0) hg (h2 us0 w0 hf0)
        have hjm : j < sp.length := by
          rcases Nat.lt_or_ge j sp.length with hlt | hge
          · exact hlt
          · exfalso
            obtain ⟨hpos2, hre⟩ := hS.last i (List.getElem?_eq_some_iff.1 ho).1 hns
            have hsl : sp.length - 1 < sp.length := by omega
            have hsw := hS.within (sp.getD (sp.length - 1) 0) (by rw [List.getD, List.getElem?_eq_getElem hsl]; exact List.getElem_mem hsl)
            have hlis := (hst (sp.length - 1) hsl).2 (by omega)
            have hlt2 : sp.getD (sp.length - 1) 0 < listed.size := by omega
            have h5 : listed.getD (sp.getD (sp.length - 1) 0) false = listed.getD (sp.getD (sp.length - 1) 0) true := by simp only [Array.getD, hlt2, dite_true]
            rw [← h5] at hlis
            have h6 := reach_listed hdc l.length (sp.getD (sp.length - 1) 0) _ (List.getElem?_eq_getElem hsw) (hdc _ _ (List.getElem?_eq_getElem hsw) hlis) hre
            have h7 : listed.getD i false = listed.getD i true := by simp only [Array.getD, hil, dite_true]
            rw [h7, hunl] at h6
            cases h6
        have hr := plain_run hpl (hu w (hC _ _ _ hp hjm))
        refine wp_of_run hr (ih _ _ j vs w hp hj (by simpa using hs) ?_ hdc2 fun us w2 hf => ?_)
        · intro k hk
          have e1 : i ≠ sp.getD k 0 := fun e1 => hns (by rw [e1, List.getD, List.getElem?_eq_getElem hk]; exact List.getElem_mem hk)
          rw [getD_set_ne true e1]
          exact hst k hk
        · obtain ⟨u', hu', hK'⟩ := quiet_at (l := l) (hat us) hg (h2 us w2 hf)
          have hr' := plain_run hpl (hu' w (hC _ _ _ hp hjm))
          have : u' = u := by
            rcases hr with h1 | ⟨e1, h1⟩ <;> rcases hr' with h3 | ⟨e3, h3⟩
            · rw [h1] at h3; cases h3; rfl
            · rw [h1] at h3; cases h3
            · rw [h1] at h3; cases h3
            · rw [e1, e3]
          rw [← this]; exact hK'
end
/-- The question to the text, by reckoning. -/
def seqB (l : List Oper) (sp : List Nat) (xs : List (Array Operand)) : Bool :=
  (List.range l.length).all (fun i => match l[i]? with
    | none => true
    | some o => o.guard.isNone && (sp.contains i || plainOp o.op) && o.after.all (fun e => decide (e.on < i)) &&
      (List.range sp.length).all (fun j => match l[sp.getD j 0]?, o.dst with
        | some oj, some t => oj.after.any (fun e => e.on == i && Region.binds .any e) || (xs.getD j #[]).all (fun x => !slotB x t)
        | _, _ => true)) &&
  (List.range sp.length).all (fun t => (List.range t).all fun j => reachB l (sp.getD j 0) l.length (sp.getD t 0)) && sp.all (fun s => decide (s < l.length)) && (List.range l.length).all (fun i => sp.contains i || (decide (0 < sp.length) && reachB l i l.length (sp.getD (sp.length - 1) 0)))
theorem seqIs_of {l : List Oper} {sp : List Nat} {xs : List (Array Operand)} (h : seqB l sp xs = true) : SeqIs l sp (fun j => xs.getD j #[]) := by
  unfold seqB at h
  simp only [Bool.and_eq_true] at h
  obtain ⟨⟨⟨h1, h2⟩, h3⟩, h9⟩ := h
  have hat : ∀ (i : Nat) (o : Oper), l[i]? = some o → _ := fun i o ho => by
    have := List.all_eq_true.1 h1 i (List.mem_range.2 (List.getElem?_eq_some_iff.1 ho).1)
    rw [ho] at this
    exact this
  refine ⟨fun i o ho => ?_, fun t j hj ht => ?_, fun j oj hj hoj i o ho t hd => ?_, fun s hs => by simpa using List.all_eq_true.1 h3 s hs, fun i hi hns => ?_⟩
  · have := hat i o ho
    simp only [Bool.and_eq_true, Bool.or_eq_true] at this
    obtain ⟨⟨⟨g1, g2⟩, g3⟩, -⟩ := this
    refine ⟨Option.isNone_iff_eq_none.1 g1, ?_, fun e he => by simpa using (Array.all_eq_true_iff_forall_mem.1 g3) e he⟩
    rcases g2 with g2 | g2
    · exact .inl (by simpa using g2)
    · exact .inr g2
  · exact List.all_eq_true.1 (List.all_eq_true.1 h2 t (List.mem_range.2 ht)) j (List.mem_range.2 hj)
  · have := hat i o ho
    simp only [Bool.and_eq_true] at this
    have h4 := List.all_eq_true.1 this.2 j (List.mem_range.2 hj)
    rw [hoj, hd] at h4
    simp only [Bool.or_eq_true] at h4
    rcases h4 with h4 | h4
    · obtain ⟨e, he, hb⟩ := Array.any_eq_true'.1 h4
      simp only [Bool.and_eq_true, beq_iff_eq] at hb
      exact .inl ⟨e, he, hb.1, hb.2⟩
    · exact .inr fun x hx => by simpa using (Array.all_eq_true_iff_forall_mem.1 h4) x hx
  · have := List.all_eq_true.1 h9 i (List.mem_range.2 hi)
    simp only [Bool.or_eq_true, Bool.and_eq_true, decide_eq_true_eq] at this
    rcases this with g | g
    · exact absurd (by simpa using g) hns
    · exact g
/-- THE RULE. sp: the numbers of the operations that change memory, in their row; xs: what each reads; args: what these are, by the results so far; Post j vs w: j of them are done, with these results, in this world. -/
theorem wp_region_seq {P : Program} {id : Nat} {Q : Exit → Act → World → Prop} {a : Act} {w : World} {l : List Oper} (sp : List Nat) (xs : List (Array Operand)) (hreg : seqB l sp xs = true) (hm : P.follows .mixedOrders = true) (hB : ∀ vs : List Value, Region.lexB .any (opsSeq sp vs 0 l).toArray = true)
    (C : World → Prop) (args : Nat → List Value → Array Value) (Post : Nat → List Value → World → Prop) (h0 : Post 0 [] w.drew) (hC : ∀ j vs w, Post j vs w → j < sp.length → C w) (hlen : ∀ j vs w, Post j vs w → vs.length = j) (hext : ∀ j vs w, Post j vs w → j < sp.length → ∃ v w', Post (j + 1) (vs ++ [v]) w')
    (hstep : ∀ j vs w o, Post j vs w → j < sp.length → l[sp.getD j 0]? = some o → ∀ (a : Act) (next : Act → World → Prop), (xs.getD j #[]).map a.eval = args j vs → (∀ v w', Post (j + 1) (vs ++ [v]) w' → next (a.put o.dst v) w') → o.wp P a w next Q)
    (h : ∀ vs w', Post sp.length vs w' → wpQuiet P (opsSeq sp vs 0 l).toArray C (FinB P Q sp.length (fun j => xs.getD j #[]) args vs w') (opsSeq sp vs 0 l) a) : (Code.region id l.toArray true).wp P Q a w := by
  have hlen2 : ∀ (vs : List Value) (k : Nat) (l : List Oper), (opsSeq sp vs k l).length = l.length := by
    intro vs k l
    induction l generalizing k with
    | nil => rfl
    | cons o r ih => simp [opsSeq, ih]
  refine wp_region_any hm ?_
  refine seq_phase (seqIs_of hreg) hC hlen hext hstep _ _ a 0 [] _ h0 (Nat.zero_le _) (by simp) (fun t ht => ?_) (fun i o ho hi => ?_) fun us w' hp => ?_
  · have hw := (seqIs_of hreg).within (sp.getD t 0) (by rw [List.getD, List.getElem?_eq_getElem ht]; exact List.getElem_mem ht)
    constructor
    · intro h9
      simp only [List.getD_eq_getElem?_getD] at hw
      simp [Array.getD, hw] at h9
    · intro h9; omega
  · have hlt := (List.getElem?_eq_some_iff.1 ho).1
    simp [Array.getD, hlt] at hi
  · have hb := hB us
    simp only [Region.lexB, Bool.and_eq_true] at hb
    rw [List.nil_append] at hp ⊢
    have h5 := wpAnyQ_lex (C := C) (md := .any) hb.1 (opsSeq sp us 0 l) 0 (Array.replicate (opsSeq sp us 0 l).toArray.size false) a (by simp) (by simpa using hb.2) (h us w' hp)
    simpa [hlen2] using h5
end Go.Proofs.Ytkjejmikcgjnaaa
