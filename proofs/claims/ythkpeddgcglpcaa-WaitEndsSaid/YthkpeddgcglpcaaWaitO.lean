/- Contracts of the page's own helpers: all owners that waits speak of; ages. -/
import Derived.Test.YthkpeddgcglpcaaWaitM
import Derived.Deep.RegionLaw
import Derived.Laws.AppendOwnNone
import Derived.Deep.DeepCutAuto
namespace Go.Proofs.Ythkpeddgcglpcaa
open Go.RowKit

def allL : List Wt → List Int
  | [] => []
  | x :: r => x.1 :: x.2 ++ allL r
theorem allL_mem {l : List Wt} {n : Int} : n ∈ allL l ↔ ∃ x ∈ l, n = x.1 ∨ n ∈ x.2 := by
  induction l with
  | nil => simp [allL]
  | cons x r ih => simp [allL, ih, or_assoc]

section
variable {P : Program} {w : World}
/-- An append of none, as one step of a region that draws its order. -/
theorem step_append_nil {ops : Array Oper} {o : Oper} {a : Act} {K : Act → World → Prop} {Q : Exit → Act → World → Prop} {E : Prop} (hgd : o.guard = none) (s x : Operand) (t : TypeId)
    (ho : o.op = .call { callee := .builtin .append, args := #[s, x], argTypes := #[t, t] })
    (base : Nat) (e : TypeId) (i : TypeInfo) (size : Nat) (ht : P.underlying t = some (.slice e)) (hi : P.info? e = some i)
    (v : Value) (n : Nat) (xs : List Value) (hs : a.eval s = v) (hown : w.ownsRow base e size v n xs) (hx : a.eval x = .slice none 0 0)
    (h : K (a.put o.dst v) w) : if Region.wanted o (yielded ops a.tmps) = true then Oper.wp P o a w K Q else E := by
  have hw : Region.wanted o (yielded ops a.tmps) = true := by simp [Region.wanted, hgd]
  rw [if_pos hw]
  have hrun := run_append_owned_none (P := P) (w := w) base t o.type e i size ht hi v n xs hown
  unfold Oper.wp
  simp [execOp, ho, resolve, invoke, builtin, hs, hx, hrun, Result.andThen]
  exact h
end

/-- A For that is nil, or at an address. -/
def NilOk (x : Wv) : Prop := (x.v = .slice none 0 0 ∧ x.f = []) ∨ ∃ g o c, x.v = .slice (some ⟨g, o, none⟩) x.f.length c

set_option maxRecDepth 100000 in
set_option maxHeartbeats 2000000 in
theorem all_any (w : World) (v : Value) (P : List Wv) (h : WvAt w v P) (hn : ∀ x ∈ P, NilOk x) (h6 : P.length ≤ 6) (hf : ∀ x ∈ P, x.f.length ≤ 1000) :
    Calls Try.prog 11 #[v] w fun e w' => ∃ u, e = .returned u ∧ IntsAt w' u (allL (P.map Wv.pl)) ∧ Below w.heap.size w w' := by
  have HP := Lib.hid h
  have HN := Lib.hid hn
  have HF := Lib.hid hf
  obtain ⟨p, cap, rfl, hl, -⟩ := h.at
  obtain ⟨i0, hi, hz0, hz1, hz2⟩ := info_parts info_int
  have HI := Lib.hid hi
  clear h hi hn hf
  go_enter Try.func11, Try.ntmps11
  go_wp2
  go_loopg [3, 4] (P.length + 1) (fun g s3 s4 wr => ∃ (k : Nat) (c : List Int), k ≤ P.length ∧ g + k = P.length + 1 ∧ s4 = .int .i64 k ∧ c.length ≤ k * 1001 ∧ Hid (c ++ allL ((P.drop k).map Wv.pl) = allL (P.map Wv.pl)) ∧ Hid (OwnI w.heap.size wr s3 c) ∧ Hid (Below w.heap.size w wr))
  case atStart => exact ⟨0, [], Nat.zero_le _, rfl, rfl, Nat.le_refl _, rfl, OwnI.nil _ _, Below.refl _ _⟩
  case round =>
    obtain ⟨k, c, hk, hg, rfl, hq, HT, HO, HB⟩ := hrel
    obtain rfl : gk = P.length + 1 - k := by omega
    clear hg
    by_cases hlt : k < P.length
    · obtain ⟨-, ht⟩ : True ∧ _ := ⟨trivial, HP.out.at⟩
      obtain ⟨p', cap', e', -, ht⟩ := ht
      obtain ⟨rfl, rfl⟩ : p = p' ∧ cap = cap' := by simpa using e'
      obtain ⟨b, off, x, rfl, hb, hc, hc1, hf, hd, hxk⟩ := ht k hlt
      have hxm := List.mem_of_getElem? hxk
      have hxn := HN.out x hxm
      have hx1 := HF.out x hxm
      obtain ⟨xo, xv, xf⟩ := x
      dsimp only [NilOk] at hc hc1 hf hxn hx1
      have HT1 : Hid ((c ++ [xo] ++ xf) ++ allL ((P.drop (k + 1)).map Wv.pl) = allL (P.map Wv.pl)) := by
        have := HT.out; rw [hd] at this
        rw [← this]
        exact Lib.hid (by simp [allL, Wv.pl])
      have hcW : ∀ W, Below w.heap.size w W → W.cell? ⟨b, off + k * 2, none⟩ = some (.int .i64 xo) := fun W hW => by rw [hW.cell (p := ⟨b, off + k * 2, none⟩) hb.out]; exact hc
      have hcW1 : ∀ W, Below w.heap.size w W → W.cell? ⟨b, off + k * 2 + 1, none⟩ = some xv := fun W hW => by rw [hW.cell (p := ⟨b, off + k * 2 + 1, none⟩) hb.out]; exact hc1
      have hbr : Lt b wr.heap.size := Nat.lt_of_lt_of_le hb.out HB.out.size
      have e0 := hcW _ HB.out
      have e1 := hcW1 _ HB.out
      have i1 : (0 : Int) ≤ (k : Int) := by omega
      have i2 : (k : Int) < (P.length : Int) := by omega
      rcases hxn with ⟨rfl, rfl⟩ | ⟨fg, fo, fc, rfl⟩
      · clear hd hxk hxm hf ht e' HT hc hc1
        go_wp2_with fail
        have HCW := Lib.hid hcW
        have HCW1 := Lib.hid hcW1
        clear hcW hcW1
        go_region_law (first | (refine step_append_own rfl (.tmp 11) (.tmp 17) _ rfl w.heap.size 3 i0 (.int .i64 0) 1 8 Try.underlying23 HI.out hz0 hz1 hz2 rfl (by decide) _ c.length _ rfl (own_below HO.out (by (repeat (first | exact Below.refl _ _ | assumption | refine nw_more ?_ _ _ | refine nw_alloc ?_ _ | refine nw_drew ?_ | refine nw_drewN ?_ _ | refine nw_set ?_ (by first | (simp; done) | (simp; omega) | omega) _)))) ⟨_, 0, none⟩ 1 1 [.int .i64 xo] rfl rfl (news1 (by simp [go_sem])) (news1_one rfl) (by unfold maxLen; omega) (by omega) (by have := HB.out.size; simp; omega) ?_; intro v1 w1 hown1 hgrow1; have HO1 := Lib.hid (own_snocI hown1); have HB1 := Lib.hid (below_append (w := w) (by have hbel := HB.out; (repeat (first | exact Below.refl _ _ | assumption | refine nw_more ?_ _ _ | refine nw_alloc ?_ _ | refine nw_drew ?_ | refine nw_drewN ?_ _ | refine nw_set ?_ (by first | (simp; done) | (simp; omega) | omega) _))) (own_below HO.out (by (repeat (first | exact Below.refl _ _ | assumption | refine nw_more ?_ _ _ | refine nw_alloc ?_ _ | refine nw_drew ?_ | refine nw_drewN ?_ _ | refine nw_set ?_ (by first | (simp; done) | (simp; omega) | omega) _)))) hgrow1); have g0 := HCW.out _ HB1.out; have g1 := HCW1.out _ HB1.out; clear hown1 hgrow1) | (refine step_append_nil rfl (.tmp 18) (.tmp 23) _ rfl w.heap.size 3 i0 1 Try.underlying23 HI.out _ (c ++ [xo]).length _ rfl HO1.out rfl ?_; have HO2 := HO1; have HB2 := HB1))
        all_goals
          go_wp2
          go_roundg (P.length + 1 - k - 1)
          case measure => omega
          case rel => exact ⟨k + 1, _, by omega, by omega, by go_num, by simp; omega, by have := HT1.out; rw [List.append_nil] at this; exact this, HO2, HB2⟩
      · have HFC : Hid (∀ j, j < xf.length → w.cell? ⟨fg, fo + j, none⟩ = some (.int .i64 (xf.getD j 0))) := Lib.hid (fun j hj => by
          obtain ⟨-, p2, c2, e2, -, h2⟩ := hf
          obtain ⟨b2, o2, e3, -, h3⟩ := h2 j hj
          simp only [Value.slice.injEq] at e2
          rw [← e2.1] at e3
          simp only [Option.some.injEq, Addr.mk.injEq] at e3
          rw [e3.1, e3.2.1]; exact h3)
        have hfl : 0 < xf.length → fg < w.heap.size := fun hp => by
          obtain ⟨-, p2, c2, e2, -, h2⟩ := hf
          obtain ⟨b2, o2, e3, hb3, -⟩ := h2 0 hp
          simp only [Value.slice.injEq] at e2
          rw [← e2.1] at e3
          simp only [Option.some.injEq, Addr.mk.injEq] at e3
          rw [e3.1]; exact hb3
        clear hd hxk hxm hf ht e' HT hc hc1
        go_wp2_with fail
        have HCW := Lib.hid hcW
        have HCW1 := Lib.hid hcW1
        clear hcW hcW1
        go_region_law (first | (refine step_append_own rfl (.tmp 11) (.tmp 17) _ rfl w.heap.size 3 i0 (.int .i64 0) 1 8 Try.underlying23 HI.out hz0 hz1 hz2 rfl (by decide) _ c.length _ rfl (own_below HO.out (by (repeat (first | exact Below.refl _ _ | assumption | refine nw_more ?_ _ _ | refine nw_alloc ?_ _ | refine nw_drew ?_ | refine nw_drewN ?_ _ | refine nw_set ?_ (by first | (simp; done) | (simp; omega) | omega) _)))) ⟨_, 0, none⟩ 1 1 [.int .i64 xo] rfl rfl (news1 (by simp [go_sem])) (news1_one rfl) (by unfold maxLen; omega) (by omega) (by have := HB.out.size; simp; omega) ?_; intro v1 w1 hown1 hgrow1; have HO1 := Lib.hid (own_snocI hown1); have HB1 := Lib.hid (below_append (w := w) (by have hbel := HB.out; (repeat (first | exact Below.refl _ _ | assumption | refine nw_more ?_ _ _ | refine nw_alloc ?_ _ | refine nw_drew ?_ | refine nw_drewN ?_ _ | refine nw_set ?_ (by first | (simp; done) | (simp; omega) | omega) _))) (own_below HO.out (by (repeat (first | exact Below.refl _ _ | assumption | refine nw_more ?_ _ _ | refine nw_alloc ?_ _ | refine nw_drew ?_ | refine nw_drewN ?_ _ | refine nw_set ?_ (by first | (simp; done) | (simp; omega) | omega) _)))) hgrow1); have g0 := HCW.out _ HB1.out; have g1 := HCW1.out _ HB1.out; clear hown1 hgrow1) | (refine step_append_own rfl (.tmp 18) (.tmp 23) _ rfl w.heap.size 3 i0 (.int .i64 0) 1 8 Try.underlying23 HI.out hz0 hz1 hz2 rfl (by decide) _ (c ++ [xo]).length _ rfl HO1.out ⟨fg, fo, none⟩ xf.length fc (xf.map (Value.int .i64)) rfl (by simp) (newsI (fun j hj => by rw [HB1.out.cell (p := ⟨fg, fo + j, none⟩) (hfl (by omega))]; exact HFC.out j hj)) (newsI_one _) (by unfold maxLen; simp; omega) (by simp; omega) HB1.out.size ?_; intro v2 w2 hown2 hgrow2; have HO2 := Lib.hid (own_appI hown2); have HB2 := Lib.hid (below_append (w := w) HB1.out HO1.out hgrow2); clear hown2 hgrow2))
        all_goals
          go_wp2
          go_roundg (P.length + 1 - k - 1)
          case measure => omega
          case rel => exact ⟨k + 1, _, by omega, by omega, by go_num, by simp; omega, HT1, HO2, HB2⟩
    · have e : k = P.length := by omega
      have HE : Hid (c = allL (P.map Wv.pl)) := by have := HT.out; rw [e, List.drop_length] at this; rw [← this]; exact Lib.hid (by simp [allL])
      have hcl : c.length ≤ 1000000 := by omega
      clear e HT
      go_wp2
      go_ret
      exact ⟨_, rfl, by rw [← HE.out]; exact HO.out.at hcl, HB.out⟩
end Go.Proofs.Ythkpeddgcglpcaa
