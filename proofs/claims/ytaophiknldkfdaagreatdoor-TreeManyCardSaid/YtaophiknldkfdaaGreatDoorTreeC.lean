/- Contracts of package tree: parts that may be, leaves, a kid's part, free nodes. -/
import Derived.Test.YtaophiknldkfdaaGreatDoorTreeB
namespace Go.Proofs.YtaophiknldkfdaaGreatDoor
open Go.RowKit

theorem nodes_get {α : Type} {K : Ks α} {B : Nat} {w : World} {v : Value} {P : List (Nv α)} (h : NodesIn K B w v P) {k : Nat} {x : Nv α} (hx : P[k]? = some x) :
    ∃ b off cap p1 c1 p2 c2 p3 c3, v = .slice (some ⟨b, off, none⟩) P.length cap ∧ k < P.length ∧ Lt b w.heap.size ∧ x.kv = .slice p1 x.n.keys.length c1 ∧ x.rv = .slice p2 x.n.rows.length c2 ∧ x.cv = .slice p3 x.n.kids.length c3 ∧
      w.cell? ⟨b, off + k * 4, none⟩ = some (.slice p1 x.n.keys.length c1) ∧ w.cell? ⟨b, off + k * 4 + 1, none⟩ = some (.slice p2 x.n.rows.length c2) ∧ w.cell? ⟨b, off + k * 4 + 2, none⟩ = some (.slice p3 x.n.kids.length c3) ∧ w.cell? ⟨b, off + k * 4 + 3, none⟩ = some (.bool x.n.leaf) ∧ NodeIn K B w x := by
  obtain ⟨p, cap, rfl, -, -, ht⟩ := h.at
  have hk : k < P.length := (List.getElem?_eq_some_iff.1 hx).1
  obtain ⟨b, off, y, rfl, hb, c0, c1, c2, c3, hn, hy⟩ := ht k hk
  rw [hx] at hy
  obtain rfl := Option.some.inj hy
  obtain ⟨p1, d1, e1, -⟩ := hn.1.slice
  obtain ⟨p2, d2, e2, -⟩ := hn.2.1.slice
  obtain ⟨p3, d3, e3, -⟩ := hn.2.2.slice
  rw [e1] at c0
  rw [e2] at c1
  rw [e3] at c2
  exact ⟨b, off, cap, p1, d1, p2, d2, p3, d3, rfl, hk, hb, e1, e2, e3, c0, c1, c2, c3, hn⟩

set_option maxHeartbeats 400000 in
theorem isLeaf_any {α : Type} (K : Ks α) (B : Nat) (w : World) (v u : Value) (r : Int) (P : List (Nv α)) (k : Nat) (x : Nv α) (lo hi : ByteArray) (top : Bool) (h : NodesIn K B w v P) (hx : P[k]? = some x) :
    Calls Tryz.prog 64 #[.agg #[v, .int .i64 r, u], .agg #[.int .i64 k, .string lo, .string hi, .bool top]] w fun e w' => e = .returned (.bool x.n.leaf) ∧ Below w.heap.size w w' := by
  obtain ⟨b, off, cap, p1, c1, p2, c2, p3, c3, rfl, hk, hb, -, -, -, -, -, -, hc3, -⟩ := nodes_get h hx
  have k1 : (k : Int) < (P.length : Int) := by omega
  have k0 : (0 : Int) ≤ (k : Int) := by omega
  clear h
  go_enter Tryz.func64, Tryz.ntmps64
  go_wp2
  go_ret
  exact ⟨rfl, by (repeat (first | exact Below.refl _ _ | assumption | refine nw_more ?_ _ _ | refine nw_alloc ?_ _ | refine nw_drew ?_ | refine nw_drewN ?_ _ | refine nw_set ?_ (by first | (simp; done) | (simp; omega) | omega) _))⟩

set_option maxHeartbeats 1000000 in
theorem part_q {α : Type} (K : Ks α) (B : Nat) (w : World) (v u : Value) (r : Int) (q : Bool) (P : List (Nv α)) (k : Nat) (x : Nv α) (b : Bd α) (lo hi : ByteArray) (top : Bool) (h : NodesIn K B w v P) (hx : P[k]? = some x) (hbd : BdIs K b lo hi top) (hq : decide ((k : Int) = r) = q) :
    Calls Tryz.prog 63 #[.agg #[v, .int .i64 r, u], .agg #[.int .i64 k, .string lo, .string hi, .bool top]] w fun e w' => e = .returned (.bool (partB K x.n q b)) ∧ Below w.heap.size w w' := by
  obtain ⟨bb, off, cap, p1, c1, p2, c2, p3, c3, rfl, hk, hb, e1, e2, e3, hc0, hc1, hc2, hc3, hn⟩ := nodes_get h hx
  have HN := Lib.hid hn
  have HBD := Lib.hid hbd
  have k1 : (k : Int) < (P.length : Int) := by omega
  have k0 : (0 : Int) ≤ (k : Int) := by omega
  obtain ⟨kv, rv, cv, ks, rs, cs, leaf⟩ := x
  dsimp only at e1 e2 e3 hc0 hc1 hc2 hc3 hn
  subst e1 e2 e3
  have HLI := Lib.hid (fun w' (hb : Below w.heap.size w w') => lists_any K B w' _ (HN.out.below hb))
  dsimp only at HLI
  have HM : Hid (partB K ⟨ks, rs, cs, leaf⟩ q b = (manyB (⟨ks, rs, cs, leaf⟩ : Nd α) q && (riseB K ks && (areInB K b ks && listsB K ⟨ks, rs, cs, leaf⟩)))) := rfl
  have HMA : Hid (manyB (⟨ks, rs, cs, leaf⟩ : Nd α) q = (decide (ks.length ≤ 4) && (decide (2 ≤ ks.length) || q))) := rfl
  have HQ := Lib.hid hq
  clear h hx hn hbd hq
  by_cases h4 : ks.length ≤ 4
  · by_cases h2 : 2 ≤ ks.length
    · have HE : Hid (partB K ⟨ks, rs, cs, leaf⟩ q b = (riseB K ks && (areInB K b ks && listsB K ⟨ks, rs, cs, leaf⟩))) := Lib.hid (by
        rw [HM.out, HMA.out, decide_eq_true h4]
        first
          | (rw [decide_eq_true h2]; rfl)
          | (rw [Bool.or_true]; rfl))
      clear HM HMA
      cases hr1 : riseB K ks
      · have HR1 := Lib.hid hr1
        clear hr1
        go_enter Tryz.func63, Tryz.ntmps63
        go_wp2_with (first | (go_at_call 77; refine (rise_any K B _ _ ks (HN.out.1.below (by (repeat (first | exact Below.refl _ _ | assumption | refine nw_more ?_ _ _ | refine nw_alloc ?_ _ | refine nw_drew ?_ | refine nw_drewN ?_ _ | refine nw_set ?_ (by first | (simp; done) | (simp; omega) | omega) _))))).mono ?_; rw [HR1.out]; (rintro e w' ⟨rfl, hb⟩; obtain ⟨n, es, rfl⟩ := below_more hb; clear hb)) | (go_at_call 78; refine (areIn_any K B _ _ ks b _ _ _ (HN.out.1.below (by (repeat (first | exact Below.refl _ _ | assumption | refine nw_more ?_ _ _ | refine nw_alloc ?_ _ | refine nw_drew ?_ | refine nw_drewN ?_ _ | refine nw_set ?_ (by first | (simp; done) | (simp; omega) | omega) _)))) HBD.out).mono ?_; (rintro e w' ⟨rfl, hb⟩; obtain ⟨n, es, rfl⟩ := below_more hb; clear hb)) | (go_at_call 79; refine (HLI.out _ (by (repeat (first | exact Below.refl _ _ | assumption | refine nw_more ?_ _ _ | refine nw_alloc ?_ _ | refine nw_drew ?_ | refine nw_drewN ?_ _ | refine nw_set ?_ (by first | (simp; done) | (simp; omega) | omega) _)))).mono ?_; (rintro e w' ⟨rfl, hb⟩; obtain ⟨n, es, rfl⟩ := below_more hb; clear hb)))
        go_ret
        exact ⟨ret_bool (by rw [HE.out, HR1.out]; rfl), by (repeat (first | exact Below.refl _ _ | assumption | refine nw_more ?_ _ _ | refine nw_alloc ?_ _ | refine nw_drew ?_ | refine nw_drewN ?_ _ | refine nw_set ?_ (by first | (simp; done) | (simp; omega) | omega) _))⟩
      · have HR1 := Lib.hid hr1
        clear hr1
        cases hr2 : areInB K b ks
        · have HR2 := Lib.hid hr2
          clear hr2
          go_enter Tryz.func63, Tryz.ntmps63
          go_wp2_with (first | (go_at_call 77; refine (rise_any K B _ _ ks (HN.out.1.below (by (repeat (first | exact Below.refl _ _ | assumption | refine nw_more ?_ _ _ | refine nw_alloc ?_ _ | refine nw_drew ?_ | refine nw_drewN ?_ _ | refine nw_set ?_ (by first | (simp; done) | (simp; omega) | omega) _))))).mono ?_; rw [HR1.out]; (rintro e w' ⟨rfl, hb⟩; obtain ⟨n, es, rfl⟩ := below_more hb; clear hb)) | (go_at_call 78; refine (areIn_any K B _ _ ks b _ _ _ (HN.out.1.below (by (repeat (first | exact Below.refl _ _ | assumption | refine nw_more ?_ _ _ | refine nw_alloc ?_ _ | refine nw_drew ?_ | refine nw_drewN ?_ _ | refine nw_set ?_ (by first | (simp; done) | (simp; omega) | omega) _)))) HBD.out).mono ?_; rw [HR2.out]; (rintro e w' ⟨rfl, hb⟩; obtain ⟨n, es, rfl⟩ := below_more hb; clear hb)) | (go_at_call 79; refine (HLI.out _ (by (repeat (first | exact Below.refl _ _ | assumption | refine nw_more ?_ _ _ | refine nw_alloc ?_ _ | refine nw_drew ?_ | refine nw_drewN ?_ _ | refine nw_set ?_ (by first | (simp; done) | (simp; omega) | omega) _)))).mono ?_; (rintro e w' ⟨rfl, hb⟩; obtain ⟨n, es, rfl⟩ := below_more hb; clear hb)))
          go_ret
          exact ⟨ret_bool (by rw [HE.out, HR1.out, HR2.out]; rfl), by (repeat (first | exact Below.refl _ _ | assumption | refine nw_more ?_ _ _ | refine nw_alloc ?_ _ | refine nw_drew ?_ | refine nw_drewN ?_ _ | refine nw_set ?_ (by first | (simp; done) | (simp; omega) | omega) _))⟩
        · have HR2 := Lib.hid hr2
          clear hr2
          go_enter Tryz.func63, Tryz.ntmps63
          go_wp2_with (first | (go_at_call 77; refine (rise_any K B _ _ ks (HN.out.1.below (by (repeat (first | exact Below.refl _ _ | assumption | refine nw_more ?_ _ _ | refine nw_alloc ?_ _ | refine nw_drew ?_ | refine nw_drewN ?_ _ | refine nw_set ?_ (by first | (simp; done) | (simp; omega) | omega) _))))).mono ?_; rw [HR1.out]; (rintro e w' ⟨rfl, hb⟩; obtain ⟨n, es, rfl⟩ := below_more hb; clear hb)) | (go_at_call 78; refine (areIn_any K B _ _ ks b _ _ _ (HN.out.1.below (by (repeat (first | exact Below.refl _ _ | assumption | refine nw_more ?_ _ _ | refine nw_alloc ?_ _ | refine nw_drew ?_ | refine nw_drewN ?_ _ | refine nw_set ?_ (by first | (simp; done) | (simp; omega) | omega) _)))) HBD.out).mono ?_; rw [HR2.out]; (rintro e w' ⟨rfl, hb⟩; obtain ⟨n, es, rfl⟩ := below_more hb; clear hb)) | (go_at_call 79; refine (HLI.out _ (by (repeat (first | exact Below.refl _ _ | assumption | refine nw_more ?_ _ _ | refine nw_alloc ?_ _ | refine nw_drew ?_ | refine nw_drewN ?_ _ | refine nw_set ?_ (by first | (simp; done) | (simp; omega) | omega) _)))).mono ?_; (rintro e w' ⟨rfl, hb⟩; obtain ⟨n, es, rfl⟩ := below_more hb; clear hb)))
          go_ret
          exact ⟨ret_bool (by rw [HE.out, HR1.out, HR2.out]; rfl), by (repeat (first | exact Below.refl _ _ | assumption | refine nw_more ?_ _ _ | refine nw_alloc ?_ _ | refine nw_drew ?_ | refine nw_drewN ?_ _ | refine nw_set ?_ (by first | (simp; done) | (simp; omega) | omega) _))⟩
    · by_cases h3 : (k : Int) = r
      · have hqt : q = true := by rw [← HQ.out, decide_eq_true h3]
        subst hqt
        clear HQ
        subst h3
        have HE : Hid (partB K ⟨ks, rs, cs, leaf⟩ true b = (riseB K ks && (areInB K b ks && listsB K ⟨ks, rs, cs, leaf⟩))) := Lib.hid (by
          rw [HM.out, HMA.out, decide_eq_true h4]
          first
            | (rw [decide_eq_true h2]; rfl)
            | (rw [Bool.or_true]; rfl))
        clear HM HMA
        cases hr1 : riseB K ks
        · have HR1 := Lib.hid hr1
          clear hr1
          go_enter Tryz.func63, Tryz.ntmps63
          go_wp2_with (first | (go_at_call 77; refine (rise_any K B _ _ ks (HN.out.1.below (by (repeat (first | exact Below.refl _ _ | assumption | refine nw_more ?_ _ _ | refine nw_alloc ?_ _ | refine nw_drew ?_ | refine nw_drewN ?_ _ | refine nw_set ?_ (by first | (simp; done) | (simp; omega) | omega) _))))).mono ?_; rw [HR1.out]; (rintro e w' ⟨rfl, hb⟩; obtain ⟨n, es, rfl⟩ := below_more hb; clear hb)) | (go_at_call 78; refine (areIn_any K B _ _ ks b _ _ _ (HN.out.1.below (by (repeat (first | exact Below.refl _ _ | assumption | refine nw_more ?_ _ _ | refine nw_alloc ?_ _ | refine nw_drew ?_ | refine nw_drewN ?_ _ | refine nw_set ?_ (by first | (simp; done) | (simp; omega) | omega) _)))) HBD.out).mono ?_; (rintro e w' ⟨rfl, hb⟩; obtain ⟨n, es, rfl⟩ := below_more hb; clear hb)) | (go_at_call 79; refine (HLI.out _ (by (repeat (first | exact Below.refl _ _ | assumption | refine nw_more ?_ _ _ | refine nw_alloc ?_ _ | refine nw_drew ?_ | refine nw_drewN ?_ _ | refine nw_set ?_ (by first | (simp; done) | (simp; omega) | omega) _)))).mono ?_; (rintro e w' ⟨rfl, hb⟩; obtain ⟨n, es, rfl⟩ := below_more hb; clear hb)))
          go_ret
          exact ⟨ret_bool (by rw [HE.out, HR1.out]; rfl), by (repeat (first | exact Below.refl _ _ | assumption | refine nw_more ?_ _ _ | refine nw_alloc ?_ _ | refine nw_drew ?_ | refine nw_drewN ?_ _ | refine nw_set ?_ (by first | (simp; done) | (simp; omega) | omega) _))⟩
        · have HR1 := Lib.hid hr1
          clear hr1
          cases hr2 : areInB K b ks
          · have HR2 := Lib.hid hr2
            clear hr2
            go_enter Tryz.func63, Tryz.ntmps63
            go_wp2_with (first | (go_at_call 77; refine (rise_any K B _ _ ks (HN.out.1.below (by (repeat (first | exact Below.refl _ _ | assumption | refine nw_more ?_ _ _ | refine nw_alloc ?_ _ | refine nw_drew ?_ | refine nw_drewN ?_ _ | refine nw_set ?_ (by first | (simp; done) | (simp; omega) | omega) _))))).mono ?_; rw [HR1.out]; (rintro e w' ⟨rfl, hb⟩; obtain ⟨n, es, rfl⟩ := below_more hb; clear hb)) | (go_at_call 78; refine (areIn_any K B _ _ ks b _ _ _ (HN.out.1.below (by (repeat (first | exact Below.refl _ _ | assumption | refine nw_more ?_ _ _ | refine nw_alloc ?_ _ | refine nw_drew ?_ | refine nw_drewN ?_ _ | refine nw_set ?_ (by first | (simp; done) | (simp; omega) | omega) _)))) HBD.out).mono ?_; rw [HR2.out]; (rintro e w' ⟨rfl, hb⟩; obtain ⟨n, es, rfl⟩ := below_more hb; clear hb)) | (go_at_call 79; refine (HLI.out _ (by (repeat (first | exact Below.refl _ _ | assumption | refine nw_more ?_ _ _ | refine nw_alloc ?_ _ | refine nw_drew ?_ | refine nw_drewN ?_ _ | refine nw_set ?_ (by first | (simp; done) | (simp; omega) | omega) _)))).mono ?_; (rintro e w' ⟨rfl, hb⟩; obtain ⟨n, es, rfl⟩ := below_more hb; clear hb)))
            go_ret
            exact ⟨ret_bool (by rw [HE.out, HR1.out, HR2.out]; rfl), by (repeat (first | exact Below.refl _ _ | assumption | refine nw_more ?_ _ _ | refine nw_alloc ?_ _ | refine nw_drew ?_ | refine nw_drewN ?_ _ | refine nw_set ?_ (by first | (simp; done) | (simp; omega) | omega) _))⟩
          · have HR2 := Lib.hid hr2
            clear hr2
            go_enter Tryz.func63, Tryz.ntmps63
            go_wp2_with (first | (go_at_call 77; refine (rise_any K B _ _ ks (HN.out.1.below (by (repeat (first | exact Below.refl _ _ | assumption | refine nw_more ?_ _ _ | refine nw_alloc ?_ _ | refine nw_drew ?_ | refine nw_drewN ?_ _ | refine nw_set ?_ (by first | (simp; done) | (simp; omega) | omega) _))))).mono ?_; rw [HR1.out]; (rintro e w' ⟨rfl, hb⟩; obtain ⟨n, es, rfl⟩ := below_more hb; clear hb)) | (go_at_call 78; refine (areIn_any K B _ _ ks b _ _ _ (HN.out.1.below (by (repeat (first | exact Below.refl _ _ | assumption | refine nw_more ?_ _ _ | refine nw_alloc ?_ _ | refine nw_drew ?_ | refine nw_drewN ?_ _ | refine nw_set ?_ (by first | (simp; done) | (simp; omega) | omega) _)))) HBD.out).mono ?_; rw [HR2.out]; (rintro e w' ⟨rfl, hb⟩; obtain ⟨n, es, rfl⟩ := below_more hb; clear hb)) | (go_at_call 79; refine (HLI.out _ (by (repeat (first | exact Below.refl _ _ | assumption | refine nw_more ?_ _ _ | refine nw_alloc ?_ _ | refine nw_drew ?_ | refine nw_drewN ?_ _ | refine nw_set ?_ (by first | (simp; done) | (simp; omega) | omega) _)))).mono ?_; (rintro e w' ⟨rfl, hb⟩; obtain ⟨n, es, rfl⟩ := below_more hb; clear hb)))
            go_ret
            exact ⟨ret_bool (by rw [HE.out, HR1.out, HR2.out]; rfl), by (repeat (first | exact Below.refl _ _ | assumption | refine nw_more ?_ _ _ | refine nw_alloc ?_ _ | refine nw_drew ?_ | refine nw_drewN ?_ _ | refine nw_set ?_ (by first | (simp; done) | (simp; omega) | omega) _))⟩
      · have h2a : (ks.length : Int) < 2 := by omega
        have h4a : ¬ (4 : Int) < (ks.length : Int) := by omega
        go_enter Tryz.func63, Tryz.ntmps63
        go_wp2_with fail
        go_ret
        exact ⟨ret_bool (by rw [HM.out, HMA.out, decide_eq_false h2, ← HQ.out, decide_eq_false h3, decide_eq_true h4]; rfl), by (repeat (first | exact Below.refl _ _ | assumption | refine nw_more ?_ _ _ | refine nw_alloc ?_ _ | refine nw_drew ?_ | refine nw_drewN ?_ _ | refine nw_set ?_ (by first | (simp; done) | (simp; omega) | omega) _))⟩
  · go_enter Tryz.func63, Tryz.ntmps63
    go_wp2
    go_ret
    exact ⟨ret_bool (by rw [HM.out, HMA.out, decide_eq_false h4]; rfl), by (repeat (first | exact Below.refl _ _ | assumption | refine nw_more ?_ _ _ | refine nw_alloc ?_ _ | refine nw_drew ?_ | refine nw_drewN ?_ _ | refine nw_set ?_ (by first | (simp; done) | (simp; omega) | omega) _))⟩

theorem part_any {α : Type} (K : Ks α) (B : Nat) (w : World) (v u : Value) (r : Int) (P : List (Nv α)) (k : Nat) (x : Nv α) (b : Bd α) (lo hi : ByteArray) (top : Bool) (h : NodesIn K B w v P) (hx : P[k]? = some x) (hbd : BdIs K b lo hi top) :
    Calls Tryz.prog 63 #[.agg #[v, .int .i64 r, u], .agg #[.int .i64 k, .string lo, .string hi, .bool top]] w fun e w' => e = .returned (.bool (partB K x.n (decide ((k : Int) = r)) b)) ∧ Below w.heap.size w w' :=
  part_q K B w v u r _ P k x b lo hi top h hx hbd rfl

/-- The i-th kid's part. -/
def kidBd {α : Type} (ks : List α) (b : Bd α) (i : Nat) : Bd α :=
  ((match i with
    | 0 => b.1
    | j + 1 => match ks[j]? with
      | some x => some x
      | none => b.1), (match ks[i]? with
    | some x => some x
    | none => b.2))
def KidPost {α : Type} (K : Ks α) (w : World) (b : Bd α) (e : Ending) (w' : World) : Prop := ∃ lo hi top, e = .returned (.agg #[.string lo, .string hi, .bool top]) ∧ BdIs K b lo hi top ∧ Below w.heap.size w w'
set_option maxHeartbeats 1000000 in
theorem kidRange_any {α : Type} (K : Ks α) (B : Nat) (w : World) (v : Value) (ks : List α) (b : Bd α) (lo hi : ByteArray) (top : Bool) (i : Nat) (h : KeysIn K B w v ks) (hb : BdIs K b lo hi top) (hi2 : i ≤ ks.length) :
    Calls Tryz.prog 76 #[v, .agg #[.string lo, .string hi, .bool top], .int .i64 i] w (KidPost K w (kidBd ks b i)) := by
  obtain ⟨p, cap, rfl, hl, ht⟩ := h.at
  have HB := Lib.hid hb
  have i0 : (0 : Int) ≤ (i : Int) := by omega
  clear h hb
  by_cases h0 : i = 0
  · subst h0
    by_cases h1 : 0 < ks.length
    · obtain ⟨bb, off, x, rfl, hbb, hc, -, hx⟩ := ht 0 h1
      have HX : Hid (kidBd ks b 0 = (b.1, some x)) := Lib.hid (by unfold kidBd; rw [hx])
      simp only [Nat.add_zero] at hc
      clear ht hx
      go_enter Tryz.func76, Tryz.ntmps76
      go_wp2
      exact bodyPost_ret (v := .agg #[.string lo, .string (K.s x), .bool false]) (by simp [results, Tryz.results76, go_sem]) rfl ⟨_, _, _, rfl, by rw [HX.out]; exact ⟨HB.out.1, rfl, rfl⟩, by (repeat (first | exact Below.refl _ _ | assumption | refine nw_more ?_ _ _ | refine nw_alloc ?_ _ | refine nw_drew ?_ | refine nw_drewN ?_ _ | refine nw_set ?_ (by first | (simp; done) | (simp; omega) | omega) _))⟩
    · have HX : Hid (kidBd ks b 0 = b) := Lib.hid (by unfold kidBd; rw [List.getElem?_eq_none (by omega)])
      have e : ks.length = 0 := by omega
      clear ht
      rw [e]
      clear e hl
      go_enter Tryz.func76, Tryz.ntmps76
      go_wp2
      exact bodyPost_ret (v := .agg #[.string lo, .string hi, .bool top]) (by simp [results, Tryz.results76, go_sem]) rfl ⟨_, _, _, rfl, by rw [HX.out]; exact HB.out, by (repeat (first | exact Below.refl _ _ | assumption | refine nw_more ?_ _ _ | refine nw_alloc ?_ _ | refine nw_drew ?_ | refine nw_drewN ?_ _ | refine nw_set ?_ (by first | (simp; done) | (simp; omega) | omega) _))⟩
  · obtain ⟨bb, off, x, rfl, hbb, hc, -, hx⟩ := ht (i - 1) (by omega)
    have hi1 : (0 : Int) < (i : Int) := by omega
    have hlo : (kidBd ks b i).1 = some x := by
      unfold kidBd
      cases i with
      | zero => omega
      | succ j => simp only [Nat.add_sub_cancel] at hx; simp only [hx]
    by_cases h1 : i < ks.length
    · obtain ⟨b2, off2, y, e', -, hc2, -, hy⟩ := ht i h1
      obtain ⟨rfl, rfl⟩ : bb = b2 ∧ off = off2 := by simpa using e'
      have HX : Hid (kidBd ks b i = (some x, some y)) := Lib.hid (Prod.ext hlo (by unfold kidBd; rw [hy]))
      clear ht hx hy hlo e'
      go_enter Tryz.func76, Tryz.ntmps76
      go_wp2
      exact bodyPost_ret (v := .agg #[.string (K.s x), .string (K.s y), .bool false]) (by simp [results, Tryz.results76, go_sem]) rfl ⟨_, _, _, rfl, by rw [HX.out]; exact ⟨rfl, rfl, rfl⟩, by (repeat (first | exact Below.refl _ _ | assumption | refine nw_more ?_ _ _ | refine nw_alloc ?_ _ | refine nw_drew ?_ | refine nw_drewN ?_ _ | refine nw_set ?_ (by first | (simp; done) | (simp; omega) | omega) _))⟩
    · have HX : Hid (kidBd ks b i = (some x, b.2)) := Lib.hid (Prod.ext hlo (by unfold kidBd; rw [List.getElem?_eq_none (by omega)]))
      clear ht hx hlo
      go_enter Tryz.func76, Tryz.ntmps76
      go_wp2
      exact bodyPost_ret (v := .agg #[.string (K.s x), .string hi, .bool top]) (by simp [results, Tryz.results76, go_sem]) rfl ⟨_, _, _, rfl, by rw [HX.out]; exact ⟨rfl, HB.out.2⟩, by (repeat (first | exact Below.refl _ _ | assumption | refine nw_more ?_ _ _ | refine nw_alloc ?_ _ | refine nw_drew ?_ | refine nw_drewN ?_ _ | refine nw_set ?_ (by first | (simp; done) | (simp; omega) | omega) _))⟩
end Go.Proofs.YtaophiknldkfdaaGreatDoor
