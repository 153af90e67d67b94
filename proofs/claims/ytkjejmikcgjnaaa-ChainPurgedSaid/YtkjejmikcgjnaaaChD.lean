/- Contracts: what is there, a chain made. No condition. -/
import Derived.Test.YtkjejmikcgjnaaaChC
namespace Go.Proofs.Ytkjejmikcgjnaaa
open Go.RowKit

set_option maxHeartbeats 2000000 in
theorem at_any (w : World) (s : ByteArray) (v : Value) (l : List Vr) (N : Int) (hs : s.size ≤ 140737488355328) (h : VsAt w v l) :
    Calls Try.prog 10 #[.agg #[.string s, v], .int .i64 N] w fun e w' => e = .returned (atTwo (chOk s l) (atV N l)) ∧ Below w.heap.size w w' := by
  obtain ⟨p, cap, rfl, hl, hcap, ht⟩ := h.at
  have H := Lib.hid h
  cases hk : chOk s l
  · have HK := Lib.hid hk
    clear hk h ht
    go_enter Try.func10, Try.ntmps10
    go_wp2_with (first | (go_at_call 20; refine (mayBe_any _ _ _ l hs (H.out.below (by (repeat (first | exact Below.refl _ _ | assumption | refine nw_more ?_ _ _ | refine nw_alloc ?_ _ | refine nw_drew ?_ | refine nw_drewN ?_ _ | refine nw_set ?_ (by first | (simp; done) | (simp; omega) | omega) _))))).mono ?_; rw [HK.out]; (rintro e w' ⟨rfl, hb⟩; obtain ⟨n, es, rfl⟩ := below_more hb; clear hb)))
    refine bodyPost_ret (v := atTwo false (atV N l)) (by simp [results, Try.results10, go_sem, E0]) rfl ⟨rfl, ?_⟩
    (repeat (first | exact Below.refl _ _ | assumption | refine nw_more ?_ _ _ | refine nw_alloc ?_ _ | refine nw_drew ?_ | refine nw_drewN ?_ _ | refine nw_set ?_ (by first | (simp; done) | (simp; omega) | omega) _))
  · have HK := Lib.hid hk
    obtain ⟨-, h0, hok⟩ := chOk_parts hk
    rcases at_seen N l with ⟨e1, e2, -⟩ | ⟨x, e1, e2, e3⟩
    · have HA : Hid (atV N l = none) := Lib.hid e2
      have HS : Hid (seenI N l = l.length) := Lib.hid e1
      clear e1 e2 ht h hk
      go_enter Try.func10, Try.ntmps10
      go_wp2_with (first | (go_at_call 20; refine (mayBe_any _ _ _ l hs (H.out.below (by (repeat (first | exact Below.refl _ _ | assumption | refine nw_more ?_ _ _ | refine nw_alloc ?_ _ | refine nw_drew ?_ | refine nw_drewN ?_ _ | refine nw_set ?_ (by first | (simp; done) | (simp; omega) | omega) _))))).mono ?_; rw [HK.out]; (rintro e w' ⟨rfl, hb⟩; obtain ⟨n, es, rfl⟩ := below_more hb; clear hb)) | (go_at_call 23; refine (seen_any _ _ l N _ (H.out.below (by (repeat (first | exact Below.refl _ _ | assumption | refine nw_more ?_ _ _ | refine nw_alloc ?_ _ | refine nw_drew ?_ | refine nw_drewN ?_ _ | refine nw_set ?_ (by first | (simp; done) | (simp; omega) | omega) _)))) hok h0).mono ?_; rw [HS.out]; (rintro e w' ⟨rfl, hb⟩; obtain ⟨n, es, rfl⟩ := below_more hb; clear hb)))
      rw [HA.out]
      refine bodyPost_ret (v := atTwo true none) (by simp [results, Try.results10, go_sem, E0]) rfl ⟨rfl, ?_⟩
      (repeat (first | exact Below.refl _ _ | assumption | refine nw_more ?_ _ _ | refine nw_alloc ?_ _ | refine nw_drew ?_ | refine nw_drewN ?_ _ | refine nw_set ?_ (by first | (simp; done) | (simp; omega) | omega) _))
    · have hlt : seenI N l < l.length := (List.getElem?_eq_some_iff.1 e1).1
      obtain ⟨b, off, y, rfl, hb, q0, q1, q2, -, hy, -⟩ := ht _ hlt
      obtain rfl : y = x := by rw [e1] at hy; exact (Option.some.inj hy).symm
      obtain ⟨c, s2, g⟩ := y
      dsimp only at q0 q1 q2 e2 e3
      generalize hS : seenI N l = k at *
      have HS := Lib.hid hS
      have hlt2 : (k : Int) < (l.length : Int) := by omega
      have hne : ((k : Int) == (l.length : Int)) = false := beq_eq_false_iff_ne.2 (by omega)
      have hne2 : ¬ (k : Int) = (l.length : Int) := by omega
      cases g
      · have HA : Hid (atV N l = some ⟨c, s2, false⟩) := Lib.hid (e3 rfl).1
        clear e1 e2 e3 ht h hS hy hk
        go_enter Try.func10, Try.ntmps10
        go_wp2_with (first | (go_at_call 20; refine (mayBe_any _ _ _ l hs (H.out.below (by (repeat (first | exact Below.refl _ _ | assumption | refine nw_more ?_ _ _ | refine nw_alloc ?_ _ | refine nw_drew ?_ | refine nw_drewN ?_ _ | refine nw_set ?_ (by first | (simp; done) | (simp; omega) | omega) _))))).mono ?_; rw [HK.out]; (rintro e w' ⟨rfl, hb⟩; obtain ⟨n, es, rfl⟩ := below_more hb; clear hb)) | (go_at_call 23; refine (seen_any _ _ l N _ (H.out.below (by (repeat (first | exact Below.refl _ _ | assumption | refine nw_more ?_ _ _ | refine nw_alloc ?_ _ | refine nw_drew ?_ | refine nw_drewN ?_ _ | refine nw_set ?_ (by first | (simp; done) | (simp; omega) | omega) _)))) hok h0).mono ?_; rw [HS.out]; (rintro e w' ⟨rfl, hb⟩; obtain ⟨n, es, rfl⟩ := below_more hb; clear hb)))
        rw [HA.out]
        refine bodyPost_ret (v := atTwo true (some ⟨c, s2, false⟩)) (by simp [results, Try.results10, go_sem, E0]) rfl ⟨rfl, ?_⟩
        (repeat (first | exact Below.refl _ _ | assumption | refine nw_more ?_ _ _ | refine nw_alloc ?_ _ | refine nw_drew ?_ | refine nw_drewN ?_ _ | refine nw_set ?_ (by first | (simp; done) | (simp; omega) | omega) _))
      · have HA : Hid (atV N l = none) := Lib.hid (e2 rfl).1
        clear e1 e2 e3 ht h hS hy hk
        go_enter Try.func10, Try.ntmps10
        go_wp2_with (first | (go_at_call 20; refine (mayBe_any _ _ _ l hs (H.out.below (by (repeat (first | exact Below.refl _ _ | assumption | refine nw_more ?_ _ _ | refine nw_alloc ?_ _ | refine nw_drew ?_ | refine nw_drewN ?_ _ | refine nw_set ?_ (by first | (simp; done) | (simp; omega) | omega) _))))).mono ?_; rw [HK.out]; (rintro e w' ⟨rfl, hb⟩; obtain ⟨n, es, rfl⟩ := below_more hb; clear hb)) | (go_at_call 23; refine (seen_any _ _ l N _ (H.out.below (by (repeat (first | exact Below.refl _ _ | assumption | refine nw_more ?_ _ _ | refine nw_alloc ?_ _ | refine nw_drew ?_ | refine nw_drewN ?_ _ | refine nw_set ?_ (by first | (simp; done) | (simp; omega) | omega) _)))) hok h0).mono ?_; rw [HS.out]; (rintro e w' ⟨rfl, hb⟩; obtain ⟨n, es, rfl⟩ := below_more hb; clear hb)))
        rw [HA.out]
        refine bodyPost_ret (v := atTwo true none) (by simp [results, Try.results10, go_sem, E0]) rfl ⟨rfl, ?_⟩
        (repeat (first | exact Below.refl _ _ | assumption | refine nw_more ?_ _ _ | refine nw_alloc ?_ _ | refine nw_drew ?_ | refine nw_drewN ?_ _ | refine nw_set ?_ (by first | (simp; done) | (simp; omega) | omega) _))

set_option maxHeartbeats 1000000 in
theorem made_any (w : World) (s : ByteArray) (v : Value) (l : List Vr) (hs : s.size ≤ 140737488355328) (h : VsAt w v l) :
    Calls Try.prog 25 #[.string s, v] w fun e w' => e = .returned (chTwo (chOk s l) s v) ∧ Below w.heap.size w w' := by
  obtain ⟨p, cap, rfl, hcap⟩ := h.slice
  have hl := h.1
  have H := Lib.hid h
  clear h
  cases hk : chOk s l
  · have HK := Lib.hid hk
    clear hk
    go_enter Try.func25, Try.ntmps25
    go_wp2_with (first | (go_at_call 20; refine (mayBe_any _ _ _ l hs (H.out.below (by (repeat (first | exact Below.refl _ _ | assumption | refine nw_more ?_ _ _ | refine nw_alloc ?_ _ | refine nw_drew ?_ | refine nw_drewN ?_ _ | refine nw_set ?_ (by first | (simp; done) | (simp; omega) | omega) _))))).mono ?_; rw [HK.out]; (rintro e w' ⟨rfl, hb⟩; obtain ⟨n, es, rfl⟩ := below_more hb; clear hb)))
    refine bodyPost_ret (v := chTwo false s (.slice p l.length cap)) (by simp [results, Try.results25, go_sem, E0]) rfl ⟨rfl, ?_⟩
    (repeat (first | exact Below.refl _ _ | assumption | refine nw_more ?_ _ _ | refine nw_alloc ?_ _ | refine nw_drew ?_ | refine nw_drewN ?_ _ | refine nw_set ?_ (by first | (simp; done) | (simp; omega) | omega) _))
  · have HK := Lib.hid hk
    clear hk
    go_enter Try.func25, Try.ntmps25
    go_wp2_with (first | (go_at_call 20; refine (mayBe_any _ _ _ l hs (H.out.below (by (repeat (first | exact Below.refl _ _ | assumption | refine nw_more ?_ _ _ | refine nw_alloc ?_ _ | refine nw_drew ?_ | refine nw_drewN ?_ _ | refine nw_set ?_ (by first | (simp; done) | (simp; omega) | omega) _))))).mono ?_; rw [HK.out]; (rintro e w' ⟨rfl, hb⟩; obtain ⟨n, es, rfl⟩ := below_more hb; clear hb)))
    refine bodyPost_ret (v := chTwo true s (.slice p l.length cap)) (by simp [results, Try.results25, go_sem]) rfl ⟨rfl, ?_⟩
    (repeat (first | exact Below.refl _ _ | assumption | refine nw_more ?_ _ _ | refine nw_alloc ?_ _ | refine nw_drew ?_ | refine nw_drewN ?_ _ | refine nw_set ?_ (by first | (simp; done) | (simp; omega) | omega) _))

theorem vs_one {w : World} {b : Nat} (c : Int) (s : ByteArray) (g : Bool) (hs : s.size ≤ 140737488355328) (hb : b < w.heap.size) (h0 : w.cell? ⟨b, 0, none⟩ = some (.int .i64 c)) (h1 : w.cell? ⟨b, 1, none⟩ = some (.string s)) (h2 : w.cell? ⟨b, 2, none⟩ = some (.bool g)) : VsAt w (.slice (some ⟨b, 0, none⟩) 1 1) [⟨c, s, g⟩] := by
  refine ⟨by simp, fun x hx => by obtain rfl := List.mem_singleton.1 hx; exact hs, some ⟨b, 0, none⟩, 1, rfl, Nat.le_refl _, fun i hi => ⟨b, 0, rfl, hb, ?_⟩⟩
  obtain rfl : i = 0 := by simpa using hi
  exact ⟨h0, h1, h2⟩

set_option maxHeartbeats 1000000 in
theorem new_any (w : World) (k : ByteArray) (c : Int) (s : ByteArray) (g : Bool) (hk : k.size ≤ 140737488355328) (hs : s.size ≤ 140737488355328) :
    Calls Try.prog 15 #[.string k, .agg #[.int .i64 c, .string s, .bool g]] w fun e w' => ∃ u, e = .returned (chTwo (chOk k [⟨c, s, g⟩]) k u) ∧ VsAt w' u [⟨c, s, g⟩] ∧ (∃ q, u = .slice (some ⟨q, 0, none⟩) 1 1 ∧ w.heap.size ≤ q) ∧ Below w.heap.size w w' := by
  cases hc : chOk k [⟨c, s, g⟩]
  all_goals
    have HK := Lib.hid hc
    clear hc
    go_enter Try.func15, Try.ntmps15
    go_wp2_with (first | (go_at_call 25; refine (made_any _ _ _ [⟨c, s, g⟩] hk (vs_one c s g hs (by simp) (by simp [go_sem]) (by simp [go_sem]) (by simp [go_sem]))).mono ?_; rw [HK.out]; (rintro e w' ⟨rfl, hb⟩; obtain ⟨n, es, rfl⟩ := below_more hb; clear hb)))
  · refine bodyPost_ret (v := chTwo false k (.slice (some ⟨w.heap.size + 1 + 1, 0, none⟩) 1 1)) (by simp [results, Try.results15, go_sem, E0]) rfl ⟨_, rfl, ?_, ⟨_, rfl, by omega⟩, ?_⟩
    · exact vs_one c s g hs (by simp <;> omega) (by simp [go_sem]) (by simp [go_sem]) (by simp [go_sem])
    · (repeat (first | exact Below.refl _ _ | assumption | refine nw_more ?_ _ _ | refine nw_alloc ?_ _ | refine nw_drew ?_ | refine nw_drewN ?_ _ | refine nw_set ?_ (by first | (simp; done) | (simp; omega) | omega) _))
  · refine bodyPost_ret (v := chTwo true k (.slice (some ⟨w.heap.size + 1 + 1, 0, none⟩) 1 1)) (by simp [results, Try.results15, go_sem]) rfl ⟨_, rfl, ?_, ⟨_, rfl, by omega⟩, ?_⟩
    · exact vs_one c s g hs (by simp <;> omega) (by simp [go_sem]) (by simp [go_sem]) (by simp [go_sem])
    · (repeat (first | exact Below.refl _ _ | assumption | refine nw_more ?_ _ _ | refine nw_alloc ?_ _ | refine nw_drew ?_ | refine nw_drewN ?_ _ | refine nw_set ?_ (by first | (simp; done) | (simp; omega) | omega) _))
end Go.Proofs.Ytkjejmikcgjnaaa
