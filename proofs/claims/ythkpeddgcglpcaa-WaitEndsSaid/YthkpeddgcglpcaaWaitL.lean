/- Contracts of the page's own helpers: In, Num, copies. -/
import Derived.Test.YthkpeddgcglpcaaWaitK
import Derived.Test.YthkpeddgcglpcaaWGraph
namespace Go.Proofs.Ythkpeddgcglpcaa
open Go.RowKit

def idxFrom (x : Int) : Nat → List Int → Int
  | _, [] => -1
  | k, n :: r => if n = x then (k : Int) else idxFrom x (k + 1) r
def idxL (l : List Int) (x : Int) : Int := idxFrom x 0 l
theorem idxFrom_has (x : Int) (k : Nat) (l : List Int) : 0 ≤ idxFrom x k l ↔ x ∈ l := by
  induction l generalizing k with
  | nil => simp [idxFrom]
  | cons n r ih =>
    rw [idxFrom]
    split
    · rename_i h; subst h; simp
    · rename_i h; rw [ih, List.mem_cons]; exact ⟨.inr, fun h2 => h2.elim (fun e => absurd e.symm h) id⟩
theorem idx_has {l : List Int} {x : Int} (h : has l x = true) : 0 ≤ idxL l x := (idxFrom_has x 0 l).2 (has_iff.1 h)
theorem idx_not {l : List Int} {x : Int} (h : has l x = false) : idxL l x < 0 := by
  have h1 : ¬ 0 ≤ idxL l x := fun h2 => by rw [has_iff.2 ((idxFrom_has x 0 l).1 h2)] at h; cases h
  omega

set_option maxHeartbeats 400000 in
theorem in_any (w : World) (v : Value) (l : List Int) (x : Int) (h : IntsAt w v l) :
    Calls Try.prog 15 #[v, .int .i64 x] w fun e w' => e = .returned (.int .i64 (idxL l x)) ∧ w = w' := by
  obtain ⟨p, cap, rfl, hl, ht⟩ := h.at
  have H := Lib.hid ht
  clear h ht
  go_enter Try.func15, Try.ntmps15
  go_wp2
  go_loop [5] (fun i => ∃ k : Nat, k ≤ l.length ∧ Hid (idxFrom x k (l.drop k) = idxL l x) ∧ i = .int .i64 k) (fun i => l.length - (intOf i).toNat)
  case atStart => exact ⟨0, Nat.zero_le _, rfl, rfl⟩
  case round =>
    obtain ⟨k, hk, HT, rfl⟩ := hrel
    by_cases hlt : k < l.length
    · obtain ⟨b, off, n, rfl, hb, hc, hd, -⟩ := H.out k hlt
      have HT1 : Hid ((if n = x then (k : Int) else idxFrom x (k + 1) (l.drop (k + 1))) = idxL l x) := by have := HT.out; rw [hd, idxFrom] at this; exact this
      clear hb hd HT
      by_cases hn : n = x
      · have HE : Hid ((k : Int) = idxL l x) := by have := HT1.out; rw [if_pos hn] at this; exact this
        go_wp2
        go_ret
        exact ⟨ret_int HE.out, rfl⟩
      · have HE : Hid (idxFrom x (k + 1) (l.drop (k + 1)) = idxL l x) := by have := HT1.out; rw [if_neg hn] at this; exact this
        go_wp2
        go_round
        case rel => exact ⟨k + 1, by omega, HE.out, by go_num⟩
        case measure => simp [intOf]; omega
    · have e : k = l.length := by omega
      have HE : Hid (-1 = idxL l x) := by have := HT.out; rw [e, List.drop_length] at this; exact this
      clear e
      go_wp2
      go_ret
      exact ⟨ret_int HE.out, rfl⟩

def numB (n m : Int) : Bool := decide (0 ≤ n) && decide (n ≤ m)
set_option maxHeartbeats 400000 in
theorem numB_any (w : World) (n m : Int) :
    Calls Try.prog 16 #[.int .i64 n, .int .i64 m] w fun e w' => e = .returned (.bool (numB n m)) ∧ w = w' := by
  by_cases h : 0 ≤ n
  · go_enter Try.func16, Try.ntmps16
    go_wp2
    go_ret
    exact ⟨ret_bool (by unfold numB; rw [decide_eq_true h]; rfl), rfl⟩
  · go_enter Try.func16, Try.ntmps16
    go_wp2
    go_ret
    exact ⟨ret_bool (by unfold numB; rw [decide_eq_false (by omega)]; rfl), rfl⟩

set_option maxHeartbeats 1000000 in
theorem copyNumbers_any (w : World) (v : Value) (l : List Int) (h : IntsAt w v l) :
    Calls Try.prog 48 #[v] w fun e w' => ∃ u, e = .returned u ∧ OwnI w.heap.size w' u l ∧ Below w.heap.size w w' := by
  have HL := Lib.hid h
  obtain ⟨p, cap, rfl, hl, -⟩ := h.at
  obtain ⟨i0, hi, hz0, hz1, hz2⟩ := info_parts info_int
  have HI := Lib.hid hi
  clear h hi
  go_enter Try.func48, Try.ntmps48
  go_wp2
  go_loopg [3, 4] (l.length + 1) (fun g s3 s4 wr => ∃ k : Nat, k ≤ l.length ∧ g + k = l.length + 1 ∧ s4 = .int .i64 k ∧ Hid (OwnI w.heap.size wr s3 (l.take k)) ∧ Hid (Below w.heap.size w wr))
  case atStart => exact ⟨0, Nat.zero_le _, rfl, rfl, OwnI.nil _ _, Below.refl _ _⟩
  case round =>
    obtain ⟨k, hk, hg, rfl, HO0, HB⟩ := hrel
    obtain rfl : gk = l.length + 1 - k := by omega
    clear hg
    by_cases hlt : k < l.length
    · obtain ⟨p', cap', e', -, ht⟩ := (HL.out.below HB.out).at
      obtain ⟨rfl, rfl⟩ : p = p' ∧ cap = cap' := by simpa using e'
      obtain ⟨b, off, x, rfl, hb, hc, -, hx⟩ := ht k hlt
      have HO : Hid (wr.ownsRow w.heap.size 3 1 _ k ((l.take k).map (Value.int .i64))) := Lib.hid (by have h := HO0.out; unfold OwnI at h; rw [List.length_take, Nat.min_eq_left hk] at h; exact h)
      have HT : Hid (l.take (k + 1) = l.take k ++ [x]) := Lib.hid (by rw [List.take_add_one, hx]; rfl)
      clear ht hx e' HO0
      go_wp2_with (at_builtin; refine wpList_append_own _ rfl _ _ 23 rfl w.heap.size 3 i0 (.int .i64 0) 1 8 Try.underlying23 HI.out hz0 hz1 hz2 rfl (by decide) _ _ _ rfl (own_below HO.out (by (repeat (first | exact Below.refl _ _ | assumption | refine nw_more ?_ _ _ | refine nw_alloc ?_ _ | refine nw_drew ?_ | refine nw_drewN ?_ _ | refine nw_set ?_ (by first | (simp; done) | (simp; omega) | omega) _)))) ⟨_, 0, none⟩ 1 1 [.int .i64 x] rfl rfl ?c1 ?c2 ?c3 ?c4 ?c5 ?_)
      ((case c1 => exact news1 (by simp [go_sem])); (case c2 => exact news1_one rfl); (case c3 => have hfit := hl; unfold maxLen; omega); (case c4 => have hfit := hl; omega); (case c5 => have := HB.out.size; simp; omega))
      intro v' w1 hown' hgrow hnil
      have HO' : Hid (OwnI w.heap.size w1 v' (l.take (k + 1))) := Lib.hid (by
        unfold OwnI; rw [List.length_take, Nat.min_eq_left (by omega), HT.out, List.map_append, List.map_take]; exact hown')
      have HB' := Lib.hid (below_append (w := w) (by have hbel := HB.out; (repeat (first | exact Below.refl _ _ | assumption | refine nw_more ?_ _ _ | refine nw_alloc ?_ _ | refine nw_drew ?_ | refine nw_drewN ?_ _ | refine nw_set ?_ (by first | (simp; done) | (simp; omega) | omega) _))) (own_below HO.out (by (repeat (first | exact Below.refl _ _ | assumption | refine nw_more ?_ _ _ | refine nw_alloc ?_ _ | refine nw_drew ?_ | refine nw_drewN ?_ _ | refine nw_set ?_ (by first | (simp; done) | (simp; omega) | omega) _)))) hgrow)
      clear hown' hgrow hnil HO HB
      go_wp2
      go_roundg (l.length + 1 - k - 1)
      case measure => omega
      case rel => exact ⟨k + 1, by omega, by omega, by go_num, HO', HB'⟩
    · have e : k = l.length := by omega
      have HE : Hid (l.take k = l) := Lib.hid (by rw [e, List.take_length])
      clear e
      go_wp2
      go_ret
      exact ⟨_, rfl, by rw [← HE.out]; exact HO0.out, HB.out⟩

/-- A row behind a world stays, whatever is stored in that world. -/
theorem own_swap {X X' : World} {n : Nat} {es : Array Obj} {u : Value} {l : List Int} (hs : X'.heap.size = X.heap.size) (h : OwnI X.heap.size (more X n es) u l) : OwnI X.heap.size (more X' n es) u l := by
  refine ⟨h.1, ?_⟩
  rcases h.2 with h2 | ⟨g, cap, cur, hv, hb, hg, r⟩
  · exact .inl h2
  · refine .inr ⟨g, cap, cur, hv, hb, ?_, r⟩
    rw [← hg]
    simp only [more]
    rw [Array.getElem?_append_right (by omega), Array.getElem?_append_right hb, hs]
theorem OwnI.mono {B B' : Nat} {w : World} {u : Value} {l : List Int} (h : OwnI B w u l) (hb : B' ≤ B) : OwnI B' w u l := World.ownsRow.mono h hb

set_option maxHeartbeats 1000000 in
theorem copyWait_any (w : World) (o : Int) (v : Value) (l : List Int) (h : IntsAt w v l) :
    Calls Try.prog 28 #[.agg #[.int .i64 o, v]] w fun e w' => ∃ u, e = .returned (.agg #[.int .i64 o, u]) ∧ OwnI w.heap.size w' u l ∧ Below w.heap.size w w' := by
  obtain ⟨p, cap, rfl⟩ := h.slice
  have HL := Lib.hid h
  clear h
  go_enter Try.func28, Try.ntmps28
  go_wp2_with fail
  refine (copyNumbers_any _ _ l (HL.out.below (by (repeat (first | exact Below.refl _ _ | assumption | refine nw_more ?_ _ _ | refine nw_alloc ?_ _ | refine nw_drew ?_ | refine nw_drewN ?_ _ | refine nw_set ?_ (by first | (simp; done) | (simp; omega) | omega) _))))).mono ?_
  rintro e w' ⟨u, rfl, ho, hb⟩
  obtain ⟨n, es, rfl⟩ := below_more hb
  obtain ⟨q, qc, rfl⟩ : ∃ q qc, u = .slice q l.length qc := by
    rcases ho.2 with ⟨rfl, h0⟩ | ⟨g, c, cur, rfl, -⟩
    · exact ⟨none, 0, by rw [h0]⟩
    · exact ⟨_, _, rfl⟩
  have HO := Lib.hid ho
  clear ho hb
  go_wp2
  refine bodyPost_ret (v := .agg #[.int .i64 o, .slice q l.length qc]) (by simp [results, Try.results28, go_sem]) rfl ⟨_, rfl, (own_swap (by simp) HO.out).mono (by simp; omega), ?_⟩
  (repeat (first | exact Below.refl _ _ | assumption | refine nw_more ?_ _ _ | refine nw_alloc ?_ _ | refine nw_drew ?_ | refine nw_drewN ?_ _ | refine nw_set ?_ (by first | (simp; done) | (simp; omega) | omega) _))
end Go.Proofs.Ythkpeddgcglpcaa
