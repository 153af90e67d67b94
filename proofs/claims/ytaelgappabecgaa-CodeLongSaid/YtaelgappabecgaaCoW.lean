/- wakes returns true. No condition. -/
import Derived.Test.YtaelgappabecgaaCoJ
import Derived.Test.YtaelgappabecgaaCoHw
namespace Go.Proofs.Ytaelgappabecgaa
open Go.RowKit

theorem cA : ({ data := #[97] } : ByteArray).size = 1 := rfl
theorem wsAt_one {w : World} {b cap : Nat} {t : Int} {k s : ByteArray} {g : Bool} (hb : b < w.heap.size) (hc : 1 ≤ cap) (h0 : w.cell? ⟨b, 0, none⟩ = some (.int .i64 t)) (h1 : w.cell? ⟨b, 1, none⟩ = some (.string k)) (h2 : w.cell? ⟨b, 2, none⟩ = some (.string s)) (h3 : w.cell? ⟨b, 3, none⟩ = some (.bool g)) (hk : k.size ≤ 140737488355328) (hs : s.size ≤ 140737488355328) : WsAt w (.slice (some ⟨b, 0, none⟩) 1 cap) [⟨t, k, s, g⟩] := by
  refine ⟨by simp, fun x hx => ?_, some ⟨b, 0, none⟩, cap, rfl, hc, fun i hi => ?_⟩
  · obtain rfl := List.mem_singleton.1 hx; exact ⟨hk, hs⟩
  · have : i = 0 := by simp at hi; omega
    subst this
    exact ⟨b, 0, rfl, hb, by simpa using h0, by simpa using h1, by simpa using h2, by simpa using h3⟩
set_option maxRecDepth 100000 in
set_option maxHeartbeats 4000000 in
theorem wakes17_any (w : World) :
    Calls Try.prog 12 #[] w fun e w' => e = .returned (.bool true) ∧ Below w.heap.size w w' := by
  have hok : rOk 3 [⟨0, { data := #[97] }, { data := #[118] }, false⟩] = true := by decide +kernel
  have HOK := Lib.hid hok
  have hl := rBytes_len hok
  have ht : takeP (rBytes 3 [⟨0, { data := #[97] }, { data := #[118] }, false⟩]) = some (3, [⟨0, { data := #[97] }, { data := #[118] }, false⟩]) := takeP_of hok
  have HT := Lib.hid ht
  go_enter Try.func12, Try.ntmps12
  go_wp2_with fail
  obtain ⟨X, hX⟩ : ∃ X, X = (w.alloc (Obj.cells #[.int .i64 0, .string { data := #[97] }, .string { data := #[118] }, .bool false] 43)).alloc (Obj.cells #[.int .i64 3, .slice (some ⟨w.heap.size, 0, none⟩) 1 1] 34) := ⟨_, rfl⟩
  rw [← hX]
  have hws : WsAt X (.slice (some ⟨w.heap.size, 0, none⟩) 1 1) [⟨0, { data := #[97] }, { data := #[118] }, false⟩] := by
    subst hX
    exact wsAt_one (by simp; omega) (Nat.le_refl _) (by simp [go_sem]) (by simp [go_sem]) (by simp [go_sem]) (by simp [go_sem]) (by decide) (by decide)
  have hbx : Below w.heap.size w X := by subst hX; (repeat (first | exact Below.refl _ _ | assumption | refine nw_more ?_ _ _ | refine nw_alloc ?_ _ | refine nw_drew ?_ | refine nw_drewN ?_ _ | refine nw_set ?_ (by first | (simp; done) | (simp; omega) | omega) _))
  have hblc : Blc X (w.heap.size + 1) 34 #[.int .i64 3, .slice (some ⟨w.heap.size, 0, none⟩) 1 1] := by subst hX; (repeat (first | exact Blc.newAt _ _ _ (by simp; done) | refine Blc.alloc ?_ _ | refine Blc.mre ?_ _ _))
  have HW := Lib.hid hws
  have HB := Lib.hid hbx
  have HL := Lib.hid hblc
  have x0 := hblc.cell 0
  have x1 := hblc.cell 1
  have xl : Lt (w.heap.size + 1) X.heap.size := hblc.lt
  simp only [List.getElem?_toArray, List.getElem?_cons_succ, List.getElem?_cons_zero] at x0 x1
  clear hX hws hbx hblc hok ht
  refine (bytes_any X 3 _ _ HW.out).mono ?_
  rw [HOK.out]
  rintro e w1 ⟨rfl, hb⟩
  obtain ⟨n1, es1, rfl⟩ := below_more hb
  clear hb
  simp only [if_true]
  go_wp2_with fail
  refine (take_any _ (rBytes 3 [⟨0, { data := #[97] }, { data := #[118] }, false⟩]) (by omega)).mono ?_
  rw [HT.out]
  rintro e w2 ⟨⟨u, he, ho⟩, hb⟩
  dsimp only at he ho
  subst he
  have HU := Lib.hid (ho.at (by decide) (by intro x hx; obtain rfl := List.mem_singleton.1 hx; exact ⟨by decide, by decide⟩))
  obtain ⟨up, uc, rfl⟩ := ho.slice
  obtain ⟨n2, es2, rfl⟩ := below_more hb
  clear hb ho
  unfold rTwo
  go_wp2_with (first | (go_at_call 8; refine (num17_any _ _).mono ?_; rintro e w' ⟨rfl, rfl⟩) | (go_at_call 11; refine (eqRecord_same _ 3 _ _ [⟨0, { data := #[97] }, { data := #[118] }, false⟩] (HU.out.below (by (repeat (first | exact Below.refl _ _ | assumption | refine nw_more ?_ _ _ | refine nw_alloc ?_ _ | refine nw_drew ?_ | refine nw_drewN ?_ _ | refine nw_set ?_ (by first | (simp; done) | (simp; omega) | omega) _)))) (HW.out.below (by (repeat (first | exact Below.refl _ _ | assumption | refine nw_more ?_ _ _ | refine nw_alloc ?_ _ | refine nw_drew ?_ | refine nw_drewN ?_ _ | refine nw_set ?_ (by first | (simp; done) | (simp; omega) | omega) _))))).mono ?_; (rintro e w' ⟨rfl, hb⟩; obtain ⟨n, es, rfl⟩ := below_more hb; clear hb)))
  go_ret
  exact ⟨rfl, by have hb1 := HB.out; (repeat (first | exact Below.refl _ _ | assumption | refine nw_more ?_ _ _ | refine nw_alloc ?_ _ | refine nw_drew ?_ | refine nw_drewN ?_ _ | refine nw_set ?_ (by first | (simp; done) | (simp; omega) | omega) _))⟩
end Go.Proofs.Ytaelgappabecgaa
