/- Contracts of the page's own helpers: In, Num, Between, Key, Within, EqNode, Itoa. -/
import Derived.Test.YtaophiknldkfdaaGreatDoorTreeMi
import Derived.Test.YtaophiknldkfdaaGreatDoorTreeJ2
import Derived.Test.YtaophiknldkfdaaGreatDoorTreeDg
import Derived.Test.YtaophiknldkfdaaGreatDoorTPar
namespace Go.Proofs.YtaophiknldkfdaaGreatDoor
open Go.RowKit

theorem slice_own6 {w : World} {B : Nat} {e : TypeId} {s : Nat} {v : Value} {n : Nat} {xs : List Value} (h : w.ownsRow B e s v n xs) (hn : 0 < n) : ∃ q c, v = .slice q n c := by
  rcases h.2 with ⟨-, h0⟩ | ⟨g, c, cur, rfl, -⟩
  · omega
  · exact ⟨_, _, rfl⟩
/-- What is known of a world, and no more. -/
theorem wcut {c : Code} {P : Program} {Q : Exit → Act → World → Prop} {a : Act} {w : World} (R : World → Prop) (hR : R w) (h : ∀ W, R W → c.wp P Q a W) : c.wp P Q a w := h w hR
def idxFrom (x : Int) : Nat → List Int → Int
  | _, [] => -1
  | k, n :: r => if n = x then (k : Int) else idxFrom x (k + 1) r
def idxL (l : List Int) (x : Int) : Int := idxFrom x 0 l
theorem idxFrom_has (x : Int) (k : Nat) (l : List Int) : 0 ≤ idxFrom x k l ↔ x ∈ l := by
  induction l generalizing k with
  | nil => simp [idxFrom]
  | cons n r ih =>
    rw [idxFrom]
    split
    · rename_i h; subst h; simp
    · rename_i h; rw [ih, List.mem_cons]; exact ⟨.inr, fun h2 => h2.elim (fun e => absurd e.symm h) id⟩
theorem has_iff6 {l : List Int} {x : Int} : has l x = true ↔ x ∈ l := by simp [has]
theorem idx_has {l : List Int} {x : Int} (h : has l x = true) : 0 ≤ idxL l x := (idxFrom_has x 0 l).2 (has_iff6.1 h)
theorem idx_not {l : List Int} {x : Int} (h : has l x = false) : idxL l x < 0 := by
  have h1 : ¬ 0 ≤ idxL l x := fun h2 => by rw [has_iff6.2 ((idxFrom_has x 0 l).1 h2)] at h; cases h
  omega

set_option maxHeartbeats 400000 in
theorem in_any (w : World) (v : Value) (l : List Int) (x : Int) (h : IntsAt w v l) :
    Calls Tryz.prog 35 #[v, .int .i64 x] w fun e w' => e = .returned (.int .i64 (idxL l x)) ∧ w = w' := by
  obtain ⟨p, cap, rfl, hl, ht⟩ := h.at
  have H := Lib.hid ht
  clear h ht
  go_enter Tryz.func35, Tryz.ntmps35
  go_wp2
  go_loop [5] (fun i => ∃ k : Nat, k ≤ l.length ∧ Hid (idxFrom x k (l.drop k) = idxL l x) ∧ i = .int .i64 k) (fun i => l.length - (intOf i).toNat)
  case atStart => exact ⟨0, Nat.zero_le _, rfl, rfl⟩
  case round =>
    obtain ⟨k, hk, HT, rfl⟩ := hrel
    by_cases hlt : k < l.length
    · obtain ⟨b, off, n, rfl, hb, hc, hd, -⟩ := H.out k hlt
      have HT1 : Hid ((if n = x then (k : Int) else idxFrom x (k + 1) (l.drop (k + 1))) = idxL l x) := by have := HT.out; rw [hd, idxFrom] at this; exact this
      clear hb hd HT
      by_cases hn : n = x
      · have HE : Hid ((k : Int) = idxL l x) := by have := HT1.out; rw [if_pos hn] at this; exact this
        go_wp2
        go_ret
        exact ⟨ret_int HE.out, rfl⟩
      · have HE : Hid (idxFrom x (k + 1) (l.drop (k + 1)) = idxL l x) := by have := HT1.out; rw [if_neg hn] at this; exact this
        go_wp2
        go_round
        case rel => exact ⟨k + 1, by omega, HE.out, by go_num⟩
        case measure => simp [intOf]; omega
    · have e : k = l.length := by omega
      have HE : Hid (-1 = idxL l x) := by have := HT.out; rw [e, List.drop_length] at this; exact this
      clear e
      go_wp2
      go_ret
      exact ⟨ret_int HE.out, rfl⟩

def numB (n m : Int) : Bool := decide (0 ≤ n) && decide (n ≤ m)
set_option maxHeartbeats 400000 in
theorem numB_any (w : World) (n m : Int) :
    Calls Tryz.prog 32 #[.int .i64 n, .int .i64 m] w fun e w' => e = .returned (.bool (numB n m)) ∧ w = w' := by
  by_cases h : 0 ≤ n
  · go_enter Tryz.func32, Tryz.ntmps32
    go_wp2
    go_ret
    exact ⟨ret_bool (by unfold numB; rw [decide_eq_true h]; rfl), rfl⟩
  · go_enter Tryz.func32, Tryz.ntmps32
    go_wp2
    go_ret
    exact ⟨ret_bool (by unfold numB; rw [decide_eq_false (by omega)]; rfl), rfl⟩

set_option maxHeartbeats 400000 in
theorem between_any (n low high : Int) (w : World) :
    Calls Tryz.prog 86 #[.int .i64 n, .int .i64 low, .int .i64 high] w fun e w' => e = .returned (.bool (decide (low ≤ n) && decide (n ≤ high))) ∧ w = w' := by
  by_cases h : low ≤ n
  all_goals
    go_enter Tryz.func86, Tryz.ntmps86
    go_wp2
    go_ret
    exact ⟨ret_bool (by simp [h] <;> omega), rfl⟩
set_option maxHeartbeats 400000 in
theorem rkeyK_any {α : Type} (K : Ks α) (k : α) (w : World) :
    Calls Tryz.prog 74 #[.string (K.s k)] w fun e w' => e = .returned (.bool (K.ok k)) ∧ w = w' := by
  have hs := K.hsz k
  rw [← K.hok k]
  generalize K.s k = s at *
  go_enter Tryz.func74, Tryz.ntmps74
  go_wp2_with (first | (go_at_call 86; refine (between_any _ _ _ _).mono ?_; rintro e w' ⟨rfl, rfl⟩))
  go_ret
  exact ⟨ret_bool (by rw [Bool.eq_iff_iff]; simp; omega), rfl⟩
set_option maxHeartbeats 400000 in
theorem within_any (i : Int) (n : Nat) (w : World) (hn : 0 < n) (hn2 : n < 1000) :
    Calls Tryz.prog 8 #[.int .i64 i, .int .i64 n] w fun e w' => (∃ r : Nat, r < n ∧ e = .returned (.int .i64 r)) ∧ w = w' := by
  have HW : Hid (∃ r : Nat, r < n ∧ (r : Int) = wrap64 ((IntKind.u64.wrap i).tmod n)) := Lib.hid (by
    have h0 : (0 : Int) ≤ IntKind.u64.wrap i := by rw [IntKind.wrap_u64]; omega
    have h1 : (IntKind.u64.wrap i).tmod n = (IntKind.u64.wrap i) % n := Int.tmod_eq_emod_of_nonneg h0
    have h2 : 0 ≤ (IntKind.u64.wrap i) % (n : Int) := Int.emod_nonneg _ (by omega)
    have h3 : (IntKind.u64.wrap i) % (n : Int) < n := Int.emod_lt_of_pos _ (by omega)
    rw [h1]
    generalize (IntKind.u64.wrap i) % (n : Int) = q at h2 h3
    exact ⟨q.toNat, by omega, by rw [IntWalk.wrap64_in _ (by omega)]; omega⟩)
  go_enter Tryz.func8, Tryz.ntmps8
  go_wp2
  go_ret
  obtain ⟨r, hr, he⟩ := HW.out
  exact ⟨⟨r, hr, ret_int he.symm⟩, rfl⟩

set_option maxHeartbeats 400000 in
theorem itoa_any (i : Nat) (hi : i < 100) (w : World) :
    Calls Tryz.prog 75 #[.int .i64 i] w fun e w' => (∃ s, e = .returned (.string s)) ∧ w = w' := by
  go_enter Tryz.func75, Tryz.ntmps75
  go_wp2_with (first | (go_at_call 87; refine (Tryz.internal_strconv_Itoa_small i hi _).mono ?_; rintro e w' ⟨rfl, rfl⟩))
  go_ret
  exact ⟨⟨_, rfl⟩, rfl⟩
set_option maxHeartbeats 400000 in
theorem eqStrings0_any (w : World) (p q : Option Addr) (c d : Nat) :
    Calls Tryz.prog 56 #[.slice p 0 c, .slice q 0 d] w fun e w' => e = .returned (.bool true) ∧ w = w' := by
  go_enter Tryz.func56, Tryz.ntmps56
  go_wp2
  go_loop [5] (fun i => i = .int .i64 0) (fun _ => 0)
  case atStart => rfl
  case round =>
    subst hrel
    go_wp2
    go_ret
    exact ⟨rfl, rfl⟩
set_option maxHeartbeats 400000 in
theorem eqNumbers0_any (w : World) (p q : Option Addr) (c d : Nat) :
    Calls Tryz.prog 57 #[.slice p 0 c, .slice q 0 d] w fun e w' => e = .returned (.bool true) ∧ w = w' := by
  go_enter Tryz.func57, Tryz.ntmps57
  go_wp2
  go_loop [5] (fun i => i = .int .i64 0) (fun _ => 0)
  case atStart => rfl
  case round =>
    subst hrel
    go_wp2
    go_ret
    exact ⟨rfl, rfl⟩
set_option maxHeartbeats 400000 in
theorem eqNode0_any (w : World) (p q r p2 q2 r2 : Option Addr) (c d f c2 d2 f2 : Nat) :
    Calls Tryz.prog 33 #[.agg #[.slice p 0 c, .slice q 0 d, .slice r 0 f, .bool false], .agg #[.slice p2 0 c2, .slice q2 0 d2, .slice r2 0 f2, .bool false]] w fun e w' => e = .returned (.bool true) ∧ Below w.heap.size w w' := by
  go_enter Tryz.func33, Tryz.ntmps33
  go_wp2_with (first
    | (go_at_call 56; refine (eqStrings0_any _ _ _ _ _).mono ?_; rintro e w' ⟨rfl, rfl⟩)
    | (go_at_call 57; refine (eqNumbers0_any _ _ _ _ _).mono ?_; rintro e w' ⟨rfl, rfl⟩))
  go_ret
  exact ⟨rfl, by (repeat (first | exact Below.refl _ _ | assumption | refine nw_more ?_ _ _ | refine nw_alloc ?_ _ | refine nw_drew ?_ | refine nw_drewN ?_ _ | refine nw_set ?_ (by first | (simp; done) | (simp; omega) | omega) _))⟩
end Go.Proofs.YtaophiknldkfdaaGreatDoor
/- Contracts of the page's walk: leaf. -/
namespace Go.Proofs.YtaophiknldkfdaaGreatDoor
open Go.RowKit

/-- What a walk has, in memory; its rows by their number alone. -/
def WkIn {α : Type} (G : Nat) (W : World) (wb sb N : Nat) (v u : Value) (r : Int) (s : Wk α) : Prop :=
  ∃ (rv : Value) (ys : List Value), Blc W wb 75 #[v, .int .i64 r, u, .slice (some ⟨sb, 0, none⟩) N N, .int .i64 s.deep, rv, .bool false] ∧ Blc W sb 4 (s.seen.map Value.bool).toArray ∧ W.ownsRow G 119 2 rv s.rows.length ys
/-- A step of a walk. -/
structure WkStep (G wb sb : Nat) (W W' : World) : Prop where
  size : W.heap.size ≤ W'.heap.size
  below : Below G W W'
  blc : ∀ (b : Nat) (T : TypeId) (cs : Array Value), Blc W b T cs → b ≠ wb → b ≠ sb → T ≠ 119 → Blc W' b T cs
theorem WkStep.refl (G wb sb : Nat) (W : World) : WkStep G wb sb W W := ⟨Nat.le_refl _, Below.refl _ _, fun _ _ _ h _ _ _ => h⟩
theorem WkStep.trans {G wb sb : Nat} {A B C : World} (h : WkStep G wb sb A B) (k : WkStep G wb sb B C) : WkStep G wb sb A C :=
  ⟨Nat.le_trans h.size k.size, h.below.trans k.below, fun b T cs hb h1 h2 h3 => k.blc b T cs (h.blc b T cs hb h1 h2 h3) h1 h2 h3⟩
theorem WkStep.of {G wb sb : Nat} {W W' : World} (hG : G ≤ W.heap.size) (h : Below W.heap.size W W') : WkStep G wb sb W W' := ⟨h.size, h.mono hG, fun _ _ _ hb _ _ _ => hb.below h⟩
theorem WkIn.below {α : Type} {G wb sb N : Nat} {W W' : World} {v u : Value} {r : Int} {s : Wk α} (h : WkIn G W wb sb N v u r s) (hb : Below W.heap.size W W') : WkIn G W' wb sb N v u r s := by
  obtain ⟨rv, ys, h1, h2, h3⟩ := h
  exact ⟨rv, ys, h1.below hb, h2.below hb, own_below h3 hb⟩
theorem WkIn.set {α : Type} {G wb sb N : Nat} {W : World} {v u : Value} {r : Int} {s : Wk α} (h : WkIn G W wb sb N v u r s) (hG : G ≤ wb) (hne : wb ≠ sb) (d : Nat) : WkIn G (W.setCell ⟨wb, 4, none⟩ (.int .i64 d)) wb sb N v u r ⟨s.seen, d, s.rows⟩ ∧ WkStep G wb sb W (W.setCell ⟨wb, 4, none⟩ (.int .i64 d)) := by
  obtain ⟨rv, ys, h1, h2, h3⟩ := h
  refine ⟨⟨rv, ys, h1.set 4 _, h2.far (a := ⟨wb, 4, none⟩) (fun e => hne e.symm) _, own_set h3 h1 (by decide) 4 _⟩, ?_⟩
  have hb := (Below.refl G W).setCell (p := ⟨wb, 4, none⟩) hG (.int .i64 d)
  exact ⟨hb.size, hb, fun b T cs hb2 e1 _ _ => hb2.far (a := ⟨wb, 4, none⟩) e1 _⟩
theorem leafW_parts {α : Type} {K : Ks α} {s s' : Wk α} {x : Nd α} {d : Nat} (h : leafW K s x d = some s') : (s.deep = 0 ∨ s.deep = d) ∧ x.kids.length = 0 ∧ x.rows.length = x.keys.length ∧ areKeysB K x.keys = true ∧ areRowsB x.rows = true ∧ s' = ⟨s.seen, d, s.rows ++ x.keys.zip x.rows⟩ := by
  unfold leafW at h
  split at h
  · rename_i hg
    exact ⟨hg.1, hg.2.1, hg.2.2.1, hg.2.2.2.1, hg.2.2.2.2, (Option.some.inj h).symm⟩
  · cases h
theorem keysB_at {α : Type} {K : Ks α} : ∀ {l : List α} {i : Nat} {k : α}, areKeysB K l = true → l[i]? = some k → K.ok k = true
  | [], i, k, _, h => by simp at h
  | a :: r, i, k, h, hk => by
    simp only [areKeysB, Bool.and_eq_true] at h
    cases i with
    | zero => simp at hk; subst hk; exact h.1
    | succ i => exact keysB_at h.2 (by simpa using hk)
theorem rowsB_at : ∀ {l : List Int} {i : Nat} {k : Int}, areRowsB l = true → l[i]? = some k → rowB k = true
  | [], i, k, _, h => by simp at h
  | a :: r, i, k, h, hk => by
    simp only [areRowsB, Bool.and_eq_true] at h
    cases i with
    | zero => simp at hk; subst hk; exact h.1
    | succ i => exact rowsB_at h.2 (by simpa using hk)
theorem info_row : (Tryz.prog.info? 119).map (fun i => (i.zero, i.size, i.bytes)) = some (some (.agg #[.string { data := #[] }, .string { data := #[] }]), 2, 32) := by kernel_rfl
def LfPost (G wb : Nat) (wr : World) (rv : Value) (n : Nat) (kx : ByteArray) : Nat → List Value → World → Prop
  | 0, [], w => w = wr.drew
  | 1, [a], w => (∃ str, a = .string str) ∧ w = wr.drew
  | 2, [a, b], w => ∃ str, a = .string str ∧ b = .slice (some ⟨wr.heap.size, 0, none⟩) 1 1 ∧ w = wr.drew.alloc (.cells #[.string kx, .string str] 119)
  | 3, [a, _, c], w => ∃ str w2 ys, a = .string str ∧ w2 = wr.drew.alloc (.cells #[.string kx, .string str] 119) ∧ w.ownsRow G 119 2 c (n + 1) ys ∧ w2.grownBy w rv.ownBlock
  | 4, [a, _, c, e], w => e = undef ∧ ∃ w3 str w2 ys, a = .string str ∧ w2 = wr.drew.alloc (.cells #[.string kx, .string str] 119) ∧ w3.ownsRow G 119 2 c (n + 1) ys ∧ w2.grownBy w3 rv.ownBlock ∧ w = w3.setCell ⟨wb, 5, none⟩ c
  | _, _, _ => False
theorem lf_cell {G wb n : Nat} {wr w9 : World} {rv v : Value} {kx : ByteArray} {j : Nat} {vs : List Value} {b i : Nat} (hp : LfPost G wb wr rv n kx j vs w9) (hj : j < 4) (hb : b < wr.heap.size) (hne : rv.ownBlock ≠ some b) (hv : wr.cell? ⟨b, i, none⟩ = some v) : w9.cell? ⟨b, i, none⟩ = some v := by
  have h2 : ∀ o : Obj, (wr.drew.alloc o).cell? ⟨b, i, none⟩ = some v := fun o => by
    have hbel : Below wr.heap.size wr (wr.drew.alloc o) := nw_alloc (nw_drew (Below.refl _ _)) o
    exact (hbel.cell (p := ⟨b, i, none⟩) hb).trans hv
  unfold LfPost at hp
  split at hp
  · subst hp; exact hv
  · obtain ⟨-, rfl⟩ := hp; exact hv
  · obtain ⟨str, -, -, rfl⟩ := hp; exact h2 _
  · obtain ⟨str, w2, ys, -, rfl, -, hg⟩ := hp
    rw [World.cell?_of_block (a := ⟨b, i, none⟩) (hg.block b (by simp; omega) (fun e => hne e.symm))]
    exact h2 _
  · omega
  · cases hp
theorem lf_len {G wb n : Nat} {wr w9 : World} {rv : Value} {kx : ByteArray} {j : Nat} {vs : List Value} (hp : LfPost G wb wr rv n kx j vs w9) : vs.length = j := by
  unfold LfPost at hp
  split at hp <;> first | rfl | cases hp
theorem lf_four {G wb n : Nat} {wr w9 : World} {rv : Value} {kx : ByteArray} {vs : List Value} (hp : LfPost G wb wr rv n kx 4 vs w9) : ∃ v1 v2 v3 v4, vs = [v1, v2, v3, v4] := by
  have h := lf_len hp
  match vs, h with
  | [a, b, c, d], _ => exact ⟨a, b, c, d, rfl⟩
theorem lf_ext {G wb n : Nat} {wr w9 : World} {rv : Value} {kx : ByteArray} {j : Nat} {vs ys : List Value} (hG : G ≤ wr.heap.size) (ho : wr.ownsRow G 119 2 rv n ys) (hn : n ≤ 102000) (hp : LfPost G wb wr rv n kx j vs w9) (hj : j < 4) : ∃ v w', LfPost G wb wr rv n kx (j + 1) (vs ++ [v]) w' := by
  obtain ⟨i0, hi, hz0, hz1, hz2⟩ := info_parts info_row
  unfold LfPost at hp
  split at hp
  · exact ⟨.string E0, _, ⟨_, rfl⟩, hp⟩
  · obtain ⟨⟨str, rfl⟩, rfl⟩ := hp
    exact ⟨_, _, str, rfl, rfl, rfl⟩
  · obtain ⟨str, rfl, rfl, rfl⟩ := hp
    obtain ⟨v', w', -, h2, h3, -, -⟩ := run_append_own_at (P := Tryz.prog) (wr.drew.alloc (.cells #[.string kx, .string str] 119)) G 41 41 119 i0 _ 2 32 Tryz.underlying41 hi hz0 hz1 hz2 rfl (by decide) rv n ys (World.ownsRow.alloc (own_below ho (nw_drew (Below.refl _ _))) _) ⟨wr.heap.size, 0, none⟩ 1 1 [.string kx, .string str] rfl (news2 (by simp [go_sem]) (by simp [go_sem])) (by simp [Value.oneCell']) (by unfold maxLen; omega) (by omega) (by simp; omega)
    exact ⟨v', w', str, _, _, rfl, rfl, h2, h3⟩
  · obtain ⟨str, w2, ys', ha, h1, h2, h3⟩ := hp
    exact ⟨undef, _, rfl, _, str, w2, ys', ha, h1, h2, h3, rfl⟩
  · omega
  · cases hp
theorem lf_step {α : Type} {G wb sb N n d : Nat} {wr w3 : World} {v u rv v3 : Value} {ys zs : List Value} {r : Int} {seen : List Bool} {rows' : List (α × Int)} {cs : Array Value} (hG : G ≤ wr.heap.size) (hwb : G ≤ wb) (hne : wb ≠ sb)
    (h1 : Blc wr wb 75 #[v, .int .i64 r, u, .slice (some ⟨sb, 0, none⟩) N N, .int .i64 d, rv, .bool false]) (h2 : Blc wr sb 4 (seen.map Value.bool).toArray) (h3 : wr.ownsRow G 119 2 rv n ys)
    (hown : w3.ownsRow G 119 2 v3 (n + 1) zs) (hgr : (wr.drew.alloc (.cells cs 119)).grownBy w3 rv.ownBlock) (hl : rows'.length = n + 1) :
    WkIn G (w3.setCell ⟨wb, 5, none⟩ v3) wb sb N v u r ⟨seen, d, rows'⟩ ∧ WkStep G wb sb wr (w3.setCell ⟨wb, 5, none⟩ v3) := by
  have hb0 : Below wr.heap.size wr (wr.drew.alloc (.cells cs 119)) := nw_alloc (nw_drew (Below.refl _ _)) _
  have k1 := (h1.below hb0).grown hgr (not_own h3 h1 (by decide))
  have k2 := (h2.below hb0).grown hgr (not_own h3 h2 (by decide))
  have hb1 : Below G wr w3 := (hb0.mono hG).grown hgr (Nat.le_trans hG hb0.size) (fun k e => (World.ownsRow.lt h3 k e).1)
  have hb2 := hb1.setCell (p := ⟨wb, 5, none⟩) hwb v3
  refine ⟨⟨v3, zs, k1.set 5 _, k2.far (a := ⟨wb, 5, none⟩) (fun e => hne e.symm) _, ?_⟩, ⟨hb2.size, hb2, fun b T cs' hb e1 e2 e3 => ?_⟩⟩
  · show World.ownsRow _ _ _ _ _ rows'.length _
    rw [hl]
    exact own_set hown k1 (by decide) 5 _
  · exact ((hb.below hb0).grown hgr (not_own h3 hb e3)).far (a := ⟨wb, 5, none⟩) e1 _
end Go.Proofs.YtaophiknldkfdaaGreatDoor
