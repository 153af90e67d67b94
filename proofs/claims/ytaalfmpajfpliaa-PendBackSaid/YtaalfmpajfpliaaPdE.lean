/- Contracts: a write put, in the cases of errors; a savepoint where there is no room. No condition. -/
import Derived.Test.YtaalfmpajfpliaaPdD
namespace Go.Proofs.Ytaalfmpajfpliaa
open Go.RowKit

def nilS : Value := .slice none 0 0
set_option maxHeartbeats 1000000 in
theorem put_bad (w : World) (u v : Value) (l : List Wr) (ms : List Int) (t : Int) (k s : ByteArray) (g : Bool) (hks : k.size ≤ 140737488355328) (hs : s.size ≤ 140737488355328) (hx : wOk ⟨t, k, s, g⟩ = false) (hok : pOk l ms = true) (hw : WsAt w u l) (hm : IntsAt w v ms) :
    Calls Try.prog 9 #[.agg #[u, v], .agg #[.int .i64 t, .string k, .string s, .bool g]] w fun e w' => e = .returned (pdTwo nilS nilS 1) ∧ Below w.heap.size w w' := by
  have HW := Lib.hid hw
  have HM := Lib.hid hm
  have HOK := Lib.hid hok
  have HX := Lib.hid hx
  obtain ⟨p, cap, rfl, hcap⟩ := hw.slice
  obtain ⟨q, qc, rfl, hqc⟩ := hm.cap
  clear hw hm hok hx
  go_enter Try.func9, Try.ntmps9
  go_wp2_with fail
  refine (mayBe_ok _ _ _ l ms (HW.out.below (by (repeat (first | exact Below.refl _ _ | assumption | refine nw_more ?_ _ _ | refine nw_alloc ?_ _ | refine nw_drew ?_ | refine nw_drewN ?_ _ | refine nw_set ?_ (by first | (simp; done) | (simp; omega) | omega) _)))) (HM.out.below (by (repeat (first | exact Below.refl _ _ | assumption | refine nw_more ?_ _ _ | refine nw_alloc ?_ _ | refine nw_drew ?_ | refine nw_drewN ?_ _ | refine nw_set ?_ (by first | (simp; done) | (simp; omega) | omega) _)))) HOK.out).mono ?_
  (rintro e w' ⟨rfl, hb⟩; obtain ⟨n, es, rfl⟩ := below_more hb; clear hb)
  go_wp2_with fail
  refine (writeMayBe_any _ _ _ _ _ hks hs).mono ?_
  rw [HX.out]
  (rintro e w' ⟨rfl, hb⟩; obtain ⟨n, es, rfl⟩ := below_more hb; clear hb)
  go_wp2
  refine bodyPost_ret (v := pdTwo nilS nilS 1) (by simp [pdTwo, nilS, results, Try.results9, go_sem]) rfl ⟨rfl, ?_⟩
  (repeat (first | exact Below.refl _ _ | assumption | refine nw_more ?_ _ _ | refine nw_alloc ?_ _ | refine nw_drew ?_ | refine nw_drewN ?_ _ | refine nw_set ?_ (by first | (simp; done) | (simp; omega) | omega) _))

set_option maxHeartbeats 1000000 in
theorem put_full (w : World) (u v : Value) (l : List Wr) (ms : List Int) (t : Int) (k s : ByteArray) (g : Bool) (hks : k.size ≤ 140737488355328) (hs : s.size ≤ 140737488355328) (hx : wOk ⟨t, k, s, g⟩ = true) (hl : 12 ≤ l.length) (hok : pOk l ms = true) (hw : WsAt w u l) (hm : IntsAt w v ms) :
    Calls Try.prog 9 #[.agg #[u, v], .agg #[.int .i64 t, .string k, .string s, .bool g]] w fun e w' => e = .returned (pdTwo nilS nilS 2) ∧ Below w.heap.size w w' := by
  have HW := Lib.hid hw
  have HM := Lib.hid hm
  have HOK := Lib.hid hok
  have HX := Lib.hid hx
  obtain ⟨p, cap, rfl, hcap⟩ := hw.slice
  obtain ⟨q, qc, rfl, hqc⟩ := hm.cap
  have k1 : (12 : Int) ≤ (l.length : Int) := by omega
  clear hw hm hok hx
  go_enter Try.func9, Try.ntmps9
  go_wp2_with fail
  refine (mayBe_ok _ _ _ l ms (HW.out.below (by (repeat (first | exact Below.refl _ _ | assumption | refine nw_more ?_ _ _ | refine nw_alloc ?_ _ | refine nw_drew ?_ | refine nw_drewN ?_ _ | refine nw_set ?_ (by first | (simp; done) | (simp; omega) | omega) _)))) (HM.out.below (by (repeat (first | exact Below.refl _ _ | assumption | refine nw_more ?_ _ _ | refine nw_alloc ?_ _ | refine nw_drew ?_ | refine nw_drewN ?_ _ | refine nw_set ?_ (by first | (simp; done) | (simp; omega) | omega) _)))) HOK.out).mono ?_
  (rintro e w' ⟨rfl, hb⟩; obtain ⟨n, es, rfl⟩ := below_more hb; clear hb)
  go_wp2_with fail
  refine (writeMayBe_any _ _ _ _ _ hks hs).mono ?_
  rw [HX.out]
  (rintro e w' ⟨rfl, hb⟩; obtain ⟨n, es, rfl⟩ := below_more hb; clear hb)
  go_wp2_with fail
  (refine wp_region_quiet_more (by kernel_rfl) (by kernel_rfl) ?_; (repeat (first | go_big_quiet_skip | quiet_step ((first | (go_at_call 20; exact Calls.more_same (mostWrites_any _)))))); refine wpQuiet_nil ?_; intro _ hw'; obtain ⟨⟨nq, esq⟩, hw''⟩ := hw'; subst hw''; dsimp only)
  go_wp2
  refine bodyPost_ret (v := pdTwo nilS nilS 2) (by simp [pdTwo, nilS, results, Try.results9, go_sem]) rfl ⟨rfl, ?_⟩
  (repeat (first | exact Below.refl _ _ | assumption | refine nw_more ?_ _ _ | refine nw_alloc ?_ _ | refine nw_drew ?_ | refine nw_drewN ?_ _ | refine nw_set ?_ (by first | (simp; done) | (simp; omega) | omega) _))

/-- A value, a number, beside an error. -/
def pdThree (u v : Value) (n e : Int) : Value := .tuple #[.agg #[u, v], .int .i64 n, .int .i64 e]
set_option maxHeartbeats 1000000 in
theorem save_full (w : World) (u v : Value) (l : List Wr) (ms : List Int) (hl : 6 ≤ ms.length) (hok : pOk l ms = true) (hw : WsAt w u l) (hm : IntsAt w v ms) :
    Calls Try.prog 6 #[.agg #[u, v]] w fun e w' => e = .returned (pdThree nilS nilS 0 2) ∧ Below w.heap.size w w' := by
  have HW := Lib.hid hw
  have HM := Lib.hid hm
  have HOK := Lib.hid hok
  obtain ⟨p, cap, rfl, hcap⟩ := hw.slice
  obtain ⟨q, qc, rfl, hqc⟩ := hm.cap
  have k1 : (6 : Int) ≤ (ms.length : Int) := by omega
  clear hw hm hok
  go_enter Try.func6, Try.ntmps6
  go_wp2_with fail
  refine (mayBe_ok _ _ _ l ms (HW.out.below (by (repeat (first | exact Below.refl _ _ | assumption | refine nw_more ?_ _ _ | refine nw_alloc ?_ _ | refine nw_drew ?_ | refine nw_drewN ?_ _ | refine nw_set ?_ (by first | (simp; done) | (simp; omega) | omega) _)))) (HM.out.below (by (repeat (first | exact Below.refl _ _ | assumption | refine nw_more ?_ _ _ | refine nw_alloc ?_ _ | refine nw_drew ?_ | refine nw_drewN ?_ _ | refine nw_set ?_ (by first | (simp; done) | (simp; omega) | omega) _)))) HOK.out).mono ?_
  (rintro e w' ⟨rfl, hb⟩; obtain ⟨n, es, rfl⟩ := below_more hb; clear hb)
  go_wp2
  refine bodyPost_ret (v := pdThree nilS nilS 0 2) (by simp [pdThree, nilS, results, Try.results6, go_sem]) rfl ⟨rfl, ?_⟩
  (repeat (first | exact Below.refl _ _ | assumption | refine nw_more ?_ _ _ | refine nw_alloc ?_ _ | refine nw_drew ?_ | refine nw_drewN ?_ _ | refine nw_set ?_ (by first | (simp; done) | (simp; omega) | omega) _))
end Go.Proofs.Ytaalfmpajfpliaa
