/- Contracts, six: the page's own layer 1; the small functions of the laws. -/
import Derived.Test.YtogooibfphilaaaKeyE
namespace Go.Proofs.Ytogooibfphilaaa
open Go.RowKit

set_option maxHeartbeats 400000 in
theorem rrange_any (lo hi : ByteArray) (top : Bool) (w : World) (hl : lo.size ≤ maxLen) (hh : hi.size ≤ maxLen) :
    Calls Try.prog 10 #[.agg #[.string lo, .string hi, .bool top]] w fun e w' => e = .returned (.bool (rangeB lo hi top)) ∧ Below w.heap.size w w' := by
  unfold maxLen at hl hh
  by_cases h1 : lo.size ≤ 13
  · by_cases h2 : hi.size ≤ 13
    · cases top
      all_goals
        go_enter Try.func10, Try.ntmps10
        go_wp2
        go_ret
        exact ⟨ret_bool (by simp [rangeB, boundB, h1, h2, endB]), by (repeat (first | exact Below.refl _ _ | assumption | refine nw_more ?_ _ _ | refine nw_alloc ?_ _ | refine nw_drew ?_ | refine nw_drewN ?_ _ | refine nw_set ?_ (by first | (simp; done) | (simp; omega) | omega) _))⟩
    · go_enter Try.func10, Try.ntmps10
      go_wp2
      go_ret
      exact ⟨ret_bool (by simp [rangeB, boundB, h1, h2]), by (repeat (first | exact Below.refl _ _ | assumption | refine nw_more ?_ _ _ | refine nw_alloc ?_ _ | refine nw_drew ?_ | refine nw_drewN ?_ _ | refine nw_set ?_ (by first | (simp; done) | (simp; omega) | omega) _))⟩
  · go_enter Try.func10, Try.ntmps10
    go_wp2
    go_ret
    exact ⟨ret_bool (by simp [rangeB, boundB, h1]), by (repeat (first | exact Below.refl _ _ | assumption | refine nw_more ?_ _ _ | refine nw_alloc ?_ _ | refine nw_drew ?_ | refine nw_drewN ?_ _ | refine nw_set ?_ (by first | (simp; done) | (simp; omega) | omega) _))⟩

theorem not_less_trans {a b c : ByteArray} (h : lessB a b = true) (k : lessB c b = false) : lessB a c = true := by
  rcases less_tri b c with g | g | g
  · exact less_trans h g
  · rw [← g]; exact h
  · rw [g] at k; cases k
theorem overB_eq (alo ahi blo bhi : ByteArray) (atop btop : Bool) : overB alo ahi blo bhi atop btop = ((atop || lessB (maxB alo blo) ahi) && (btop || lessB (maxB alo blo) bhi)) := by
  unfold overB
  generalize maxB alo blo = m
  cases hab : aboveB ahi bhi atop btop
  · cases atop <;> cases btop <;> simp_all [aboveB]
    intro h
    exact not_less_trans h hab
  · cases atop <;> cases btop <;> simp_all [aboveB]
    intro h
    exact less_trans h hab

set_option maxHeartbeats 1000000 in
theorem rover_any (alo ahi blo bhi : ByteArray) (atop btop : Bool) (w : World) :
    Calls Try.prog 11 #[.agg #[.string alo, .string ahi, .bool atop], .agg #[.string blo, .string bhi, .bool btop]] w fun e w' => e = .returned (.bool (overB alo ahi blo bhi atop btop)) ∧ Below w.heap.size w w' := by
  have HE := Lib.hid (overB_eq alo ahi blo bhi atop btop)
  cases hx : lessB (maxB alo blo) ahi
  all_goals cases hy : lessB (maxB alo blo) bhi
  all_goals cases atop
  all_goals cases btop
  all_goals
    go_enter Try.func11, Try.ntmps11
    go_wp2
    go_ret
    exact ⟨ret_bool (by rw [HE.out]; simp [hx, hy]), by (repeat (first | exact Below.refl _ _ | assumption | refine nw_more ?_ _ _ | refine nw_alloc ?_ _ | refine nw_drew ?_ | refine nw_drewN ?_ _ | refine nw_set ?_ (by first | (simp; done) | (simp; omega) | omega) _))⟩

set_option maxHeartbeats 1000000 in
theorem rin_any (alo ahi blo bhi : ByteArray) (atop btop : Bool) (w : World) :
    Calls Try.prog 12 #[.agg #[.string alo, .string ahi, .bool atop], .agg #[.string blo, .string bhi, .bool btop]] w fun e w' => e = .returned (.bool (inB alo ahi blo bhi atop btop)) ∧ Below w.heap.size w w' := by
  cases hx : lessB alo blo
  all_goals cases atop
  all_goals cases btop
  all_goals
    go_enter Try.func12, Try.ntmps12
    go_wp2
    go_ret
    exact ⟨ret_bool (by simp [inB, hx, aboveB]), by (repeat (first | exact Below.refl _ _ | assumption | refine nw_more ?_ _ _ | refine nw_alloc ?_ _ | refine nw_drew ?_ | refine nw_drewN ?_ _ | refine nw_set ?_ (by first | (simp; done) | (simp; omega) | omega) _))⟩

def rbothHi (alo ahi blo bhi : ByteArray) (atop btop : Bool) : ByteArray := match atop, btop with
  | true, true => ⟨#[]⟩
  | true, false => maxB bhi (maxB alo blo)
  | false, true => maxB ahi (maxB alo blo)
  | false, false => maxB (minB ahi bhi) (maxB alo blo)

set_option maxHeartbeats 1000000 in
theorem rboth_any (alo ahi blo bhi : ByteArray) (atop btop : Bool) (w : World) :
    Calls Try.prog 13 #[.agg #[.string alo, .string ahi, .bool atop], .agg #[.string blo, .string bhi, .bool btop]] w fun e w' => e = .returned (.agg #[.string (maxB alo blo), .string (rbothHi alo ahi blo bhi atop btop), .bool (atop && btop)]) ∧ Below w.heap.size w w' := by
  cases atop
  all_goals cases btop
  all_goals
    go_enter Try.func13, Try.ntmps13
    go_wp2
    refine bodyPost_ret (v := .agg #[.string (maxB alo blo), .string (rbothHi alo ahi blo bhi _ _), .bool (_ && _)]) (by simp [results, Try.results13, go_sem, rbothHi]) rfl ⟨rfl, ?_⟩
    (repeat (first | exact Below.refl _ _ | assumption | refine nw_more ?_ _ _ | refine nw_alloc ?_ _ | refine nw_drew ?_ | refine nw_drewN ?_ _ | refine nw_set ?_ (by first | (simp; done) | (simp; omega) | omega) _))

set_option maxHeartbeats 400000 in
theorem num_any (n : Int) (w : World) :
    Calls Try.prog 14 #[.int .i64 n] w fun e w' => e = .returned (.int .i64 n) ∧ w = w' := by
  go_enter Try.func14, Try.ntmps14
  go_wp2
  go_ret
  exact ⟨rfl, rfl⟩

end Go.Proofs.Ytogooibfphilaaa
