/- Contracts of package tree: free nodes, the level below. -/
import Derived.Test.YtaophiknldkfdaaGreatDoorTreeC
import Derived.Deep.AppendLies
namespace Go.Proofs.YtaophiknldkfdaaGreatDoor
open Go.RowKit

theorem free_low {α : Type} {t : Tr α} {m n : Int} {r : List Int} (h : n < m) : freeFrom t m (n :: r) = false := by rw [freeFrom, decide_eq_false (by omega)]; rfl
theorem free_out {α : Type} {t : Tr α} {m n : Int} {r : List Int} (h : t.at n = none) : freeFrom t m (n :: r) = false := by rw [freeFrom, h]; simp
theorem free_in {α : Type} {t : Tr α} {m n : Int} {r : List Int} {x : Nd α} (h0 : m ≤ n) (h : t.at n = some x) : freeFrom t m (n :: r) = (zeroB x && freeFrom t (n + 1) r) := by rw [freeFrom, h, decide_eq_true h0]; rfl

set_option maxHeartbeats 1000000 in
theorem freeMayBe_any {α : Type} (K : Ks α) (B : Nat) (w : World) (v u : Value) (r : Int) (P : List (Nv α)) (F : List Int) (h : NodesIn K B w v P) (hf : IntsIn B w u F) :
    Calls Tryz.prog 38 #[.agg #[v, .int .i64 r, u]] w fun e w' => e = .returned (.bool (freeFrom (Tr.mk (ndsOf P) r F) 0 F)) ∧ Below w.heap.size w w' := by
  have HN := Lib.hid h
  have hP := h.1
  obtain ⟨p, cap, rfl, -⟩ := h.slice
  obtain ⟨q, qc, rfl, hl, ht⟩ := hf.at
  have H := Lib.hid ht
  clear h hf ht
  generalize ht : Tr.mk (ndsOf P) r F = t
  have HT0 := Lib.hid ht
  clear ht
  go_enter Tryz.func38, Tryz.ntmps38
  go_wp2
  go_loopg [3, 9] (F.length + 1) (fun g m i wr => (∃ n es, wr = more (w.alloc (Obj.cells #[.slice p P.length cap, .int .i64 r, .slice q F.length qc] 25)) n es) ∧ ∃ (a : Int) (k : Nat), k ≤ F.length ∧ g + k = F.length + 1 ∧ Hid (freeFrom t a (F.drop k) = freeFrom t 0 F) ∧ m = .int .i64 a ∧ i = .int .i64 k)
  case atStart => exact ⟨below_more (by (repeat (first | exact Below.refl _ _ | assumption | refine nw_more ?_ _ _ | refine nw_alloc ?_ _ | refine nw_drew ?_ | refine nw_drewN ?_ _ | refine nw_set ?_ (by first | (simp; done) | (simp; omega) | omega) _))), 0, 0, Nat.zero_le _, by omega, rfl, rfl, rfl⟩
  case round =>
    obtain ⟨⟨n, es, rfl⟩, a, k, hk, hg, HT, rfl, rfl⟩ := hrel
    obtain rfl : gk = F.length + 1 - k := by omega
    clear hg
    by_cases hlt : k < F.length
    · obtain ⟨b, off, x, rfl, hb, hc, hd, -⟩ := H.out k hlt
      have HT1 : Hid (freeFrom t a (x :: F.drop (k + 1)) = freeFrom t 0 F) := Lib.hid (by have := HT.out; rw [hd] at this; exact this)
      clear hd HT
      by_cases hxa : x < a
      · have HE : Hid (false = freeFrom t 0 F) := Lib.hid ((free_low hxa).symm.trans HT1.out)
        clear HT1
        go_wp2
        go_ret
        exact ⟨ret_bool HE.out, by (repeat (first | exact Below.refl _ _ | assumption | refine nw_more ?_ _ _ | refine nw_alloc ?_ _ | refine nw_drew ?_ | refine nw_drewN ?_ _ | refine nw_set ?_ (by first | (simp; done) | (simp; omega) | omega) _))⟩
      · cases hnd : nodeB P.length x
        · have HE : Hid (false = freeFrom t 0 F) := Lib.hid ((free_out (by rw [← HT0.out]; exact nds_none hnd)).symm.trans HT1.out)
          have HND := Lib.hid hnd
          clear HT1 hnd
          go_wp2_with (first | (go_at_call 59; refine (isNode_any _ _ _ _ _ _ _).mono ?_; rw [HND.out]; (rintro e w' ⟨rfl, hb⟩; obtain ⟨n, es, rfl⟩ := below_more hb; clear hb)))
          go_ret
          exact ⟨ret_bool HE.out, by (repeat (first | exact Below.refl _ _ | assumption | refine nw_more ?_ _ _ | refine nw_alloc ?_ _ | refine nw_drew ?_ | refine nw_drewN ?_ _ | refine nw_set ?_ (by first | (simp; done) | (simp; omega) | omega) _))⟩
        · obtain ⟨j, rfl, hj⟩ := node_in hnd
          obtain ⟨y, hy⟩ : ∃ y, P[j]? = some y := ⟨_, List.getElem?_eq_getElem hj⟩
          have HE : Hid ((zeroB y.n && freeFrom t ((j : Int) + 1) (F.drop (k + 1))) = freeFrom t 0 F) := Lib.hid ((free_in (by omega) (by rw [← HT0.out]; exact nds_at hy)).symm.trans HT1.out)
          obtain ⟨bb, boff, bcap, p1, d1, p2, d2, p3, d3, e0, hjP, hbb, e1, e2, e3, hc0, hc1, hc2, hc3, -⟩ := nodes_get HN.out hy
          obtain ⟨rfl, rfl⟩ : p = some ⟨bb, boff, none⟩ ∧ cap = bcap := by simpa using e0
          have j1 : (j : Int) < (P.length : Int) := by omega
          have j0 : (0 : Int) ≤ (j : Int) := by omega
          have HND := Lib.hid hnd
          have HZ := Lib.hid (fun w' => isZero_any y.n p1 p2 p3 d1 d2 d3 w')
          generalize y.n = yn at *
          clear HT1 hnd e0 hy e1 e2 e3
          cases hz : zeroB yn
          · have HE2 : Hid (false = freeFrom t 0 F) := Lib.hid (by have := HE.out; rw [hz] at this; exact this)
            have HZB := Lib.hid hz
            clear hz HE
            go_wp2_with (first | (go_at_call 59; refine (isNode_any _ _ _ _ _ _ _).mono ?_; rw [HND.out]; (rintro e w' ⟨rfl, hb⟩; obtain ⟨n, es, rfl⟩ := below_more hb; clear hb)) | (go_at_call 60; refine (HZ.out _).mono ?_; rw [HZB.out]; (rintro e w' ⟨rfl, hb⟩; obtain ⟨n, es, rfl⟩ := below_more hb; clear hb)))
            go_ret
            exact ⟨ret_bool HE2.out, by (repeat (first | exact Below.refl _ _ | assumption | refine nw_more ?_ _ _ | refine nw_alloc ?_ _ | refine nw_drew ?_ | refine nw_drewN ?_ _ | refine nw_set ?_ (by first | (simp; done) | (simp; omega) | omega) _))⟩
          · have HE2 : Hid (freeFrom t ((j : Int) + 1) (F.drop (k + 1)) = freeFrom t 0 F) := Lib.hid (by have := HE.out; rw [hz] at this; exact this)
            have HZB := Lib.hid hz
            have hP2 : (j : Int) + 1 ≤ 1000001 := by omega
            clear hz HE
            go_wp2_with (first | (go_at_call 59; refine (isNode_any _ _ _ _ _ _ _).mono ?_; rw [HND.out]; (rintro e w' ⟨rfl, hb⟩; obtain ⟨n, es, rfl⟩ := below_more hb; clear hb)) | (go_at_call 60; refine (HZ.out _).mono ?_; rw [HZB.out]; (rintro e w' ⟨rfl, hb⟩; obtain ⟨n, es, rfl⟩ := below_more hb; clear hb)))
            go_roundg (F.length + 1 - k - 1)
            case measure => omega
            case rel => exact ⟨below_more (by (repeat (first | exact Below.refl _ _ | assumption | refine nw_more ?_ _ _ | refine nw_alloc ?_ _ | refine nw_drew ?_ | refine nw_drewN ?_ _ | refine nw_set ?_ (by first | (simp; done) | (simp; omega) | omega) _))), (j : Int) + 1, k + 1, by omega, by omega, HE2, by go_num, by go_num⟩
    · have e : k = F.length := by omega
      have HE : Hid (true = freeFrom t 0 F) := Lib.hid (by have := HT.out; rw [e, List.drop_length] at this; exact this)
      clear e HT
      go_wp2
      go_ret
      exact ⟨ret_bool HE.out, by (repeat (first | exact Below.refl _ _ | assumption | refine nw_more ?_ _ _ | refine nw_alloc ?_ _ | refine nw_drew ?_ | refine nw_drewN ?_ _ | refine nw_set ?_ (by first | (simp; done) | (simp; omega) | omega) _))⟩

/- Parts in memory: four cells each. -/
def partCells {α : Type} (K : Ks α) : List (Int × Bd α) → List Value
  | [] => []
  | p :: r => .int .i64 p.1 :: .string (loS K p.2.1) :: .string (loS K p.2.2) :: .bool p.2.2.isNone :: partCells K r
theorem partCells_length {α : Type} (K : Ks α) (l : List (Int × Bd α)) : (partCells K l).length = l.length * 4 := by
  induction l with
  | nil => rfl
  | cons x r ih => simp [partCells, ih]; omega
theorem partCells_append {α : Type} (K : Ks α) (l m : List (Int × Bd α)) : partCells K (l ++ m) = partCells K l ++ partCells K m := by
  induction l with
  | nil => rfl
  | cons x r ih => simp [partCells, ih]
theorem partCells_at {α : Type} (K : Ks α) (l : List (Int × Bd α)) (i : Nat) (p : Int × Bd α) (h : l[i]? = some p) : (partCells K l)[i * 4]? = some (.int .i64 p.1) ∧ (partCells K l)[i * 4 + 1]? = some (.string (loS K p.2.1)) ∧ (partCells K l)[i * 4 + 2]? = some (.string (loS K p.2.2)) ∧ (partCells K l)[i * 4 + 3]? = some (.bool p.2.2.isNone) := by
  induction l generalizing i with
  | nil => simp at h
  | cons x r ih =>
    cases i with
    | zero => simp at h; subst h; simp [partCells]
    | succ i =>
      have := ih i (by simpa using h)
      rw [show (i + 1) * 4 = i * 4 + 1 + 1 + 1 + 1 by omega]
      simpa [partCells] using this
/-- The slice v holds the parts l, in a block from B on. -/
def PartsIn {α : Type} (K : Ks α) (B : Nat) (w : World) (v : Value) (l : List (Int × Bd α)) : Prop :=
  l.length ≤ 1000000 ∧ ∃ p cap, v = .slice p l.length cap ∧ l.length ≤ cap ∧ ∀ i x, l[i]? = some x → ∃ b off, p = some ⟨b, off, none⟩ ∧ B ≤ b ∧ b < w.heap.size ∧
    w.cell? ⟨b, off + i * 4, none⟩ = some (.int .i64 x.1) ∧ w.cell? ⟨b, off + i * 4 + 1, none⟩ = some (.string (loS K x.2.1)) ∧ w.cell? ⟨b, off + i * 4 + 2, none⟩ = some (.string (loS K x.2.2)) ∧ w.cell? ⟨b, off + i * 4 + 3, none⟩ = some (.bool x.2.2.isNone)
theorem PartsIn.stays {α : Type} {K : Ks α} {B : Nat} {w w' : World} {v : Value} {l : List (Int × Bd α)} (h : PartsIn K B w v l) (hs : Stays B w w') : PartsIn K B w' v l := by
  obtain ⟨h0, p, cap, e, h1, h2⟩ := h
  refine ⟨h0, p, cap, e, h1, fun i x hx => ?_⟩
  obtain ⟨b, off, e2, hB, hlt, c0, c1, c2, c3⟩ := h2 i x hx
  exact ⟨b, off, e2, hB, Nat.lt_of_lt_of_le hlt hs.1, by rw [hs.cell hB hlt]; exact c0, by rw [hs.cell hB hlt]; exact c1, by rw [hs.cell hB hlt]; exact c2, by rw [hs.cell hB hlt]; exact c3⟩
theorem PartsIn.below {α : Type} {K : Ks α} {B : Nat} {w w' : World} {v : Value} {l : List (Int × Bd α)} (h : PartsIn K B w v l) (hb : Below w.heap.size w w') : PartsIn K B w' v l := h.stays (Stays.of hb)
theorem PartsIn.mono {α : Type} {K : Ks α} {B B' : Nat} {w : World} {v : Value} {l : List (Int × Bd α)} (h : PartsIn K B w v l) (hB : B' ≤ B) : PartsIn K B' w v l := by
  obtain ⟨h0, p, cap, e, h1, h2⟩ := h
  refine ⟨h0, p, cap, e, h1, fun i x hx => ?_⟩
  obtain ⟨b, off, e2, hb, r⟩ := h2 i x hx
  exact ⟨b, off, e2, by omega, r⟩
def OwnP {α : Type} (K : Ks α) (B : Nat) (w : World) (v : Value) (l : List (Int × Bd α)) : Prop := w.ownsRow B 107 4 v l.length (partCells K l)
theorem OwnP.inn {α : Type} {K : Ks α} {B : Nat} {w : World} {v : Value} {l : List (Int × Bd α)} (h : OwnP K B w v l) (hl : l.length ≤ 1000000) : PartsIn K B w v l := by
  refine ⟨hl, ?_⟩
  rcases h.2 with ⟨rfl, h0⟩ | ⟨g, cap, cur, rfl, hb, hg, hc, hm, hs, ht⟩
  · exact ⟨none, 0, by rw [h0], by omega, fun i x hx => by have := (List.getElem?_eq_some_iff.1 hx).1; omega⟩
  · refine ⟨some ⟨g, 0, none⟩, cap, rfl, hc, fun i x hx => ⟨g, 0, rfl, hb, (Array.getElem?_eq_some_iff.1 hg).1, ?_⟩⟩
    have hi := (List.getElem?_eq_some_iff.1 hx).1
    rw [Nat.zero_add, h.cellAt _ (by omega), h.cellAt _ (by omega), h.cellAt _ (by omega), h.cellAt _ (by omega)]
    exact partCells_at K l i x hx
theorem OwnP.nil {α : Type} (K : Ks α) (B : Nat) (w : World) : OwnP K B w (.slice none 0 0) [] := World.ownsRow_nil _ _ _ _
theorem OwnP.snoc {α : Type} {K : Ks α} {B : Nat} {w : World} {v : Value} {l : List (Int × Bd α)} {x : Int × Bd α} (h : w.ownsRow B 107 4 v (l.length + 1) (partCells K l ++ [.int .i64 x.1, .string (loS K x.2.1), .string (loS K x.2.2), .bool x.2.2.isNone])) : OwnP K B w v (l ++ [x]) := by
  unfold OwnP
  rw [List.length_append, partCells_append]; exact h
theorem news4 {w : World} {b : Nat} {x y z u : Value} (h0 : w.cell? ⟨b, 0, none⟩ = some x) (h1 : w.cell? ⟨b, 1, none⟩ = some y) (h2 : w.cell? ⟨b, 2, none⟩ = some z) (h3 : w.cell? ⟨b, 3, none⟩ = some u) : ∀ (j : Nat) (t : Value), [x, y, z, u][j]? = some t → w.cell? ((⟨b, 0, none⟩ : Addr).add j) = some t := by
  intro j t hj
  match j, hj with
  | 0, hj => simp at hj; subst hj; simpa [Addr.add] using h0
  | 1, hj => simp at hj; subst hj; simpa [Addr.add] using h1
  | 2, hj => simp at hj; subst hj; simpa [Addr.add] using h2
  | 3, hj => simp at hj; subst hj; simpa [Addr.add] using h3
theorem news4_one {x y z u : Value} (h0 : x.oneCell' = true) (h1 : y.oneCell' = true) (h2 : z.oneCell' = true) (h3 : u.oneCell' = true) : ∀ t ∈ [x, y, z, u], t.oneCell' = true := by
  intro t ht; simp at ht; rcases ht with rfl | rfl | rfl | rfl <;> assumption

theorem info_part : (Tryz.prog.info? 107).map (fun i => (i.zero, i.size, i.bytes)) = some (some (.agg #[.int .i64 0, .string { data := #[] }, .string { data := #[] }, .bool false]), 4, 48) := by kernel_rfl
theorem info_int : (Tryz.prog.info? 3).map (fun i => (i.zero, i.size, i.bytes)) = some (some (.int .i64 0), 1, 8) := by kernel_rfl
theorem info_parts {t : TypeId} {z : Value} {s b : Nat} (h : (Tryz.prog.info? t).map (fun i => (i.zero, i.size, i.bytes)) = some (some z, s, b)) : ∃ i, Tryz.prog.info? t = some i ∧ i.zero = some z ∧ i.size = s ∧ i.bytes = b := by
  cases e : Tryz.prog.info? t with
  | none => rw [e] at h; cases h
  | some i =>
    rw [e] at h
    simp only [Option.map_some, Option.some.injEq, Prod.mk.injEq] at h
    exact ⟨i, rfl, h.1, h.2.1, h.2.2⟩

theorem kids_step {α : Type} {b : Bd α} {cs : List Int} {ks : List α} {j : Nat} {c : Int} (hc : cs.drop j = c :: cs.drop (j + 1)) (hl : cs.length ≤ ks.length + 1) :
    kidsB b.2 (kidBd ks b j).1 (cs.drop j) (ks.drop j) = (c, kidBd ks b j) :: kidsB b.2 (kidBd ks b (j + 1)).1 (cs.drop (j + 1)) (ks.drop (j + 1)) := by
  rw [hc]
  by_cases h : j < ks.length
  · have hx : ks[j]? = some ks[j] := List.getElem?_eq_getElem h
    rw [List.drop_eq_getElem_cons h, kidsB]
    have h2 : (kidBd ks b j).2 = some ks[j] := by unfold kidBd; simp only [hx]
    have h1 : (kidBd ks b (j + 1)).1 = some ks[j] := by unfold kidBd; simp only [hx]
    rw [h1]
    congr 2
    exact Prod.ext rfl h2.symm
  · have hj : cs.drop (j + 1) = [] := List.drop_eq_nil_of_le (by omega)
    have h2 : (kidBd ks b j).2 = b.2 := by unfold kidBd; rw [List.getElem?_eq_none (by omega)]
    rw [hj, List.drop_eq_nil_of_le (by omega : ks.length ≤ j), kidsB, kidsB, kidsB]
    congr 1
    exact Prod.ext rfl (Prod.ext rfl h2.symm)
theorem kids_start {α : Type} (b : Bd α) (cs : List Int) (ks : List α) : kidsB b.2 (kidBd ks b 0).1 (cs.drop 0) (ks.drop 0) = kidsB b.2 b.1 cs ks := rfl
theorem kids_len {α : Type} (hi lo : Option α) (cs : List Int) (ks : List α) : (kidsB hi lo cs ks).length = cs.length := by
  induction cs generalizing lo ks with
  | nil => rfl
  | cons c r ih => cases ks <;> simp [kidsB, ih]
end Go.Proofs.YtaophiknldkfdaaGreatDoor
