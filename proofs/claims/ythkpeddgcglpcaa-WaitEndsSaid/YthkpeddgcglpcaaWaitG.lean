/- Contracts of package wait: Circle, Victim, of waits that may be. -/
import Derived.Test.YthkpeddgcglpcaaWaitF
namespace Go.Proofs.Ythkpeddgcglpcaa
open Go.RowKit

theorem circle_sub {l : List Wt} {o : Int} (r : List Wt) (p : List Int) : ∀ x ∈ circleFrom l o r p, x ∈ p ∨ x ∈ r.map (·.1) := by
  induction r generalizing p with
  | nil => intro x hx; exact .inl hx
  | cons y r ih =>
    intro x hx
    rw [circleFrom] at hx
    rcases ih _ x hx with h | h
    · split at h
      · rcases List.mem_append.1 h with h | h
        · exact .inl h
        · simp at h; exact .inr (by simp [h])
      · exact .inl h
    · exact .inr (by simp at h ⊢; exact .inr h)
theorem circle_mem {l : List Wt} {o x : Int} (h : x ∈ circleL l o) : ∃ y ∈ l, y.1 = x := by
  rcases circle_sub l [] x h with h | h
  · cases h
  · obtain ⟨y, hy, e⟩ := List.mem_map.1 h; exact ⟨y, hy, e⟩
theorem circle_len (l : List Wt) (o : Int) : (circleL l o).length ≤ l.length := by
  have : ∀ (r : List Wt) (p : List Int), (circleFrom l o r p).length ≤ p.length + r.length := by
    intro r
    induction r with
    | nil => intro p; simp [circleFrom]
    | cons y r ih =>
      intro p
      rw [circleFrom]
      refine Nat.le_trans (ih _) ?_
      split <;> simp <;> omega
  simpa [circleL] using this l []
theorem ageB_old {ages : List Int} {o : Int} (h : ageB ages o = true) : OldIn ages o := by
  simp only [ageB, Bool.and_eq_true, decide_eq_true_eq] at h; exact ⟨h.1, h.2.1⟩
theorem circle_old {l : List Wt} {ages : List Int} (h : allAges ages l = true) (o : Int) : ∀ x ∈ circleL l o, OldIn ages x := by
  intro x hx
  obtain ⟨y, hy, rfl⟩ := circle_mem hx
  have := List.all_eq_true.1 h y hy
  rw [Bool.and_eq_true] at this
  exact ageB_old this.1

set_option maxHeartbeats 400000 in
theorem Circle_any (w : World) (v : Value) (l : List Wt) (o : Int) (h : WaitsAt w v l) (hm : mayB l = true) :
    Calls Try.prog 12 #[v, .int .i64 o] w fun e w' => ∃ u, e = .returned (.tuple #[u, .int .i64 0]) ∧ IntsAt w' u (circleL l o) ∧ Below w.heap.size w w' := by
  have HL := Lib.hid h
  have HM := Lib.hid hm
  have hlen := Nat.le_trans (circle_len l o) (may_len hm)
  clear h hm
  go_enter Try.func12, Try.ntmps12
  go_wp2_with (first | (go_at_call 29; refine (waitMayBe_any _ _ l (HL.out.below (by (repeat (first | exact Below.refl _ _ | assumption | refine nw_more ?_ _ _ | refine nw_alloc ?_ _ | refine nw_drew ?_ | refine nw_drewN ?_ _ | refine nw_set ?_ (by first | (simp; done) | (simp; omega) | omega) _))))).mono ?_; rw [HM.out]; (rintro e w' ⟨rfl, hb⟩; obtain ⟨n, es, rfl⟩ := below_more hb; clear hb)))
  refine (circle_any _ _ l _ (HL.out.below (by (repeat (first | exact Below.refl _ _ | assumption | refine nw_more ?_ _ _ | refine nw_alloc ?_ _ | refine nw_drew ?_ | refine nw_drewN ?_ _ | refine nw_set ?_ (by first | (simp; done) | (simp; omega) | omega) _)))) HM.out).mono ?_
  rintro e w' ⟨u, rfl, ho, hb⟩
  have HO := Lib.hid (ho.at (by omega))
  have HB : Hid (Below w.heap.size w w') := Lib.hid (nw_trans (by (repeat (first | exact Below.refl _ _ | assumption | refine nw_more ?_ _ _ | refine nw_alloc ?_ _ | refine nw_drew ?_ | refine nw_drewN ?_ _ | refine nw_set ?_ (by first | (simp; done) | (simp; omega) | omega) _))) hb)
  clear ho hb
  go_wp2
  go_ret2
  exact ⟨_, rfl, HO.out, HB.out⟩

theorem len_nil {w : World} {v : Value} (h : IntsAt w v []) : ∃ p cap, v = .slice p 0 cap := h.slice

set_option maxHeartbeats 1000000 in
theorem victim_none (w : World) (v u : Value) (l : List Wt) (ages : List Int) (o : Int) (h : WaitsAt w v l) (hv : IntsAt w u ages) (hm : mayB l = true) (ha : agesB ages = true) (hh : allAges ages l = true) (hc : circleL l o = []) :
    Calls Try.prog 13 #[v, u, .int .i64 o] w fun e w' => e = .returned (.tuple #[.int .i64 0, .int .i64 3]) ∧ Below w.heap.size w w' := by
  have HL := Lib.hid h
  have HV := Lib.hid hv
  have HM := Lib.hid hm
  have HA := Lib.hid ha
  have HH := Lib.hid hh
  have HC := Lib.hid hc
  clear h hv hm ha hh hc
  go_enter Try.func13, Try.ntmps13
  go_wp2_with (first | (go_at_call 29; refine (waitMayBe_any _ _ l (HL.out.below (by (repeat (first | exact Below.refl _ _ | assumption | refine nw_more ?_ _ _ | refine nw_alloc ?_ _ | refine nw_drew ?_ | refine nw_drewN ?_ _ | refine nw_set ?_ (by first | (simp; done) | (simp; omega) | omega) _))))).mono ?_; rw [HM.out]; (rintro e w' ⟨rfl, hb⟩; obtain ⟨n, es, rfl⟩ := below_more hb; clear hb)) | (go_at_call 31; refine (agesMayBe_any _ _ ages (HV.out.below (by (repeat (first | exact Below.refl _ _ | assumption | refine nw_more ?_ _ _ | refine nw_alloc ?_ _ | refine nw_drew ?_ | refine nw_drewN ?_ _ | refine nw_set ?_ (by first | (simp; done) | (simp; omega) | omega) _))))).mono ?_; rw [HA.out]; (rintro e w' ⟨rfl, hb⟩; obtain ⟨n, es, rfl⟩ := below_more hb; clear hb)) | (go_at_call 32; refine (allHaveAges_any _ _ _ l ages (HL.out.below (by (repeat (first | exact Below.refl _ _ | assumption | refine nw_more ?_ _ _ | refine nw_alloc ?_ _ | refine nw_drew ?_ | refine nw_drewN ?_ _ | refine nw_set ?_ (by first | (simp; done) | (simp; omega) | omega) _)))) (HV.out.below (by (repeat (first | exact Below.refl _ _ | assumption | refine nw_more ?_ _ _ | refine nw_alloc ?_ _ | refine nw_drew ?_ | refine nw_drewN ?_ _ | refine nw_set ?_ (by first | (simp; done) | (simp; omega) | omega) _))))).mono ?_; rw [HH.out]; (rintro e w' ⟨rfl, hb⟩; obtain ⟨n, es, rfl⟩ := below_more hb; clear hb)))
  refine (circle_any _ _ l _ (HL.out.below (by (repeat (first | exact Below.refl _ _ | assumption | refine nw_more ?_ _ _ | refine nw_alloc ?_ _ | refine nw_drew ?_ | refine nw_drewN ?_ _ | refine nw_set ?_ (by first | (simp; done) | (simp; omega) | omega) _)))) HM.out).mono ?_
  rintro e w' ⟨c, rfl, ho, hb⟩
  rw [HC.out] at ho
  obtain ⟨p, cap, rfl⟩ := len_nil (ho.at (by simp))
  have HB : Hid (Below w.heap.size w w') := Lib.hid (nw_trans (by (repeat (first | exact Below.refl _ _ | assumption | refine nw_more ?_ _ _ | refine nw_alloc ?_ _ | refine nw_drew ?_ | refine nw_drewN ?_ _ | refine nw_set ?_ (by first | (simp; done) | (simp; omega) | omega) _))) hb)
  clear ho hb
  go_wp2
  go_ret2
  exact ⟨rfl, HB.out⟩

set_option maxHeartbeats 1000000 in
theorem victim_some (w : World) (v u : Value) (l : List Wt) (ages : List Int) (o : Int) (h : WaitsAt w v l) (hv : IntsAt w u ages) (hm : mayB l = true) (ha : agesB ages = true) (hh : allAges ages l = true) (hc : 0 < (circleL l o).length) :
    Calls Try.prog 13 #[v, u, .int .i64 o] w fun e w' => e = .returned (.tuple #[.int .i64 (youngL ages (circleL l o)), .int .i64 0]) ∧ Below w.heap.size w w' := by
  have HL := Lib.hid h
  have HV := Lib.hid hv
  have HM := Lib.hid hm
  have HA := Lib.hid ha
  have HH := Lib.hid hh
  have hlen := Nat.le_trans (circle_len l o) (may_len hm)
  clear h hv hm ha hh
  go_enter Try.func13, Try.ntmps13
  go_wp2_with (first | (go_at_call 29; refine (waitMayBe_any _ _ l (HL.out.below (by (repeat (first | exact Below.refl _ _ | assumption | refine nw_more ?_ _ _ | refine nw_alloc ?_ _ | refine nw_drew ?_ | refine nw_drewN ?_ _ | refine nw_set ?_ (by first | (simp; done) | (simp; omega) | omega) _))))).mono ?_; rw [HM.out]; (rintro e w' ⟨rfl, hb⟩; obtain ⟨n, es, rfl⟩ := below_more hb; clear hb)) | (go_at_call 31; refine (agesMayBe_any _ _ ages (HV.out.below (by (repeat (first | exact Below.refl _ _ | assumption | refine nw_more ?_ _ _ | refine nw_alloc ?_ _ | refine nw_drew ?_ | refine nw_drewN ?_ _ | refine nw_set ?_ (by first | (simp; done) | (simp; omega) | omega) _))))).mono ?_; rw [HA.out]; (rintro e w' ⟨rfl, hb⟩; obtain ⟨n, es, rfl⟩ := below_more hb; clear hb)) | (go_at_call 32; refine (allHaveAges_any _ _ _ l ages (HL.out.below (by (repeat (first | exact Below.refl _ _ | assumption | refine nw_more ?_ _ _ | refine nw_alloc ?_ _ | refine nw_drew ?_ | refine nw_drewN ?_ _ | refine nw_set ?_ (by first | (simp; done) | (simp; omega) | omega) _)))) (HV.out.below (by (repeat (first | exact Below.refl _ _ | assumption | refine nw_more ?_ _ _ | refine nw_alloc ?_ _ | refine nw_drew ?_ | refine nw_drewN ?_ _ | refine nw_set ?_ (by first | (simp; done) | (simp; omega) | omega) _))))).mono ?_; rw [HH.out]; (rintro e w' ⟨rfl, hb⟩; obtain ⟨n, es, rfl⟩ := below_more hb; clear hb)))
  refine (circle_any _ _ l _ (HL.out.below (by (repeat (first | exact Below.refl _ _ | assumption | refine nw_more ?_ _ _ | refine nw_alloc ?_ _ | refine nw_drew ?_ | refine nw_drewN ?_ _ | refine nw_set ?_ (by first | (simp; done) | (simp; omega) | omega) _)))) HM.out).mono ?_
  rintro e w' ⟨c, rfl, ho, hb⟩
  have hat := ho.at (by omega)
  obtain ⟨p, cap, rfl⟩ := hat.slice
  have HT := Lib.hid hat
  have HB : Hid (Below w.heap.size w w') := Lib.hid (nw_trans (by (repeat (first | exact Below.refl _ _ | assumption | refine nw_more ?_ _ _ | refine nw_alloc ?_ _ | refine nw_drew ?_ | refine nw_drewN ?_ _ | refine nw_set ?_ (by first | (simp; done) | (simp; omega) | omega) _))) hb)
  have HO := Lib.hid (circle_old HH.out o)
  generalize hcl : circleL l o = cl at *
  have HE := Lib.hid hcl
  clear hcl
  have hne : ¬ (cl.length : Int) = 0 := by omega
  clear hat ho hb
  go_wp2_with (first | (go_at_call 33; refine (youngest_any _ _ _ cl ages HT.out (HV.out.below HB.out) HO.out hc).mono ?_; (rintro e w' ⟨rfl, hb⟩; obtain ⟨n, es, rfl⟩ := below_more hb; clear hb)))
  go_ret2
  exact ⟨by rw [HE.out]; rfl, by have hbel := HB.out; (repeat (first | exact Below.refl _ _ | assumption | refine nw_more ?_ _ _ | refine nw_alloc ?_ _ | refine nw_drew ?_ | refine nw_drewN ?_ _ | refine nw_set ?_ (by first | (simp; done) | (simp; omega) | omega) _))⟩
end Go.Proofs.Ythkpeddgcglpcaa
