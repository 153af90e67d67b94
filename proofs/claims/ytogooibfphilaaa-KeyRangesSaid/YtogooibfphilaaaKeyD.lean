/- Contracts, four: the rest of package key. -/
import Derived.Test.YtogooibfphilaaaKeyC
namespace Go.Proofs.Ytogooibfphilaaa
open Go.RowKit


def hasB (lo hi : ByteArray) (top : Bool) (k : ByteArray) : Bool := match lessB k lo, top with
  | true, _ => false
  | false, true => true
  | false, false => lessB k hi

set_option maxHeartbeats 400000 in
theorem has_any (lo hi : ByteArray) (top : Bool) (k : ByteArray) (w : World) (hl : lo.size ≤ maxLen) (hh : hi.size ≤ maxLen) (hk : k.size ≤ maxLen) :
    Calls Try.prog 16 #[.agg #[.string lo, .string hi, .bool top], .string k] w fun e w' => e = .returned (two (rangeB lo hi top && keyB k) (hasB lo hi top k)) ∧ Below w.heap.size w w' := by
  cases hr : rangeB lo hi top
  · go_enter Try.func16, Try.ntmps16
    go_wp2_with (first | (go_at_call 22; refine (mayBe_any _ _ _ _ (by assumption) (by assumption)).mono ?_; (rintro e w' ⟨rfl, hb⟩; obtain ⟨n, es, rfl⟩ := below_more hb; clear hb)) | (go_at_call 26; refine (key_any _ _ (by assumption)).mono ?_; rintro e w' ⟨rfl, rfl⟩))
    go_ret2
    exact ⟨rfl, by (repeat (first | exact Below.refl _ _ | assumption | refine nw_more ?_ _ _ | refine nw_alloc ?_ _ | refine nw_drew ?_ | refine nw_drewN ?_ _ | refine nw_set ?_ (by first | (simp; done) | (simp; omega) | omega) _))⟩
  · cases hy : keyB k
    · go_enter Try.func16, Try.ntmps16
      go_wp2_with (first | (go_at_call 22; refine (mayBe_any _ _ _ _ (by assumption) (by assumption)).mono ?_; (rintro e w' ⟨rfl, hb⟩; obtain ⟨n, es, rfl⟩ := below_more hb; clear hb)) | (go_at_call 26; refine (key_any _ _ (by assumption)).mono ?_; rintro e w' ⟨rfl, rfl⟩))
      go_ret2
      exact ⟨rfl, by (repeat (first | exact Below.refl _ _ | assumption | refine nw_more ?_ _ _ | refine nw_alloc ?_ _ | refine nw_drew ?_ | refine nw_drewN ?_ _ | refine nw_set ?_ (by first | (simp; done) | (simp; omega) | omega) _))⟩
    · cases hx : lessB k lo
      all_goals cases top
      all_goals
        go_enter Try.func16, Try.ntmps16
        go_wp2_with (first | (go_at_call 22; refine (mayBe_any _ _ _ _ (by assumption) (by assumption)).mono ?_; (rintro e w' ⟨rfl, hb⟩; obtain ⟨n, es, rfl⟩ := below_more hb; clear hb)) | (go_at_call 26; refine (key_any _ _ (by assumption)).mono ?_; rintro e w' ⟨rfl, rfl⟩))
        go_ret2
        exact ⟨by simp [two, hasB, hx], by (repeat (first | exact Below.refl _ _ | assumption | refine nw_more ?_ _ _ | refine nw_alloc ?_ _ | refine nw_drew ?_ | refine nw_drewN ?_ _ | refine nw_set ?_ (by first | (simp; done) | (simp; omega) | omega) _))⟩

def overB (alo ahi blo bhi : ByteArray) (atop btop : Bool) : Bool := match aboveB ahi bhi atop btop with
  | true => btop || lessB (maxB alo blo) bhi
  | false => atop || lessB (maxB alo blo) ahi

set_option maxHeartbeats 1000000 in
theorem over_any (alo ahi blo bhi : ByteArray) (atop btop : Bool) (w : World) (ha : alo.size ≤ maxLen) (hb : ahi.size ≤ maxLen) (hc : blo.size ≤ maxLen) (hd : bhi.size ≤ maxLen) :
    Calls Try.prog 7 #[.agg #[.string alo, .string ahi, .bool atop], .agg #[.string blo, .string bhi, .bool btop]] w fun e w' => e = .returned (two (rangeB alo ahi atop && rangeB blo bhi btop) (overB alo ahi blo bhi atop btop)) ∧ Below w.heap.size w w' := by
  cases hr : rangeB alo ahi atop
  · go_enter Try.func7, Try.ntmps7
    go_wp2_with (first | (go_at_call 22; refine (mayBe_any _ _ _ _ (by assumption) (by assumption)).mono ?_; (rintro e w' ⟨rfl, hb⟩; obtain ⟨n, es, rfl⟩ := below_more hb; clear hb)))
    go_ret2
    exact ⟨rfl, by (repeat (first | exact Below.refl _ _ | assumption | refine nw_more ?_ _ _ | refine nw_alloc ?_ _ | refine nw_drew ?_ | refine nw_drewN ?_ _ | refine nw_set ?_ (by first | (simp; done) | (simp; omega) | omega) _))⟩
  cases hq : rangeB blo bhi btop
  · go_enter Try.func7, Try.ntmps7
    go_wp2_with (first | (go_at_call 22; refine (mayBe_any _ _ _ _ (by assumption) (by assumption)).mono ?_; (rintro e w' ⟨rfl, hb⟩; obtain ⟨n, es, rfl⟩ := below_more hb; clear hb)))
    go_ret2
    exact ⟨rfl, by (repeat (first | exact Below.refl _ _ | assumption | refine nw_more ?_ _ _ | refine nw_alloc ?_ _ | refine nw_drew ?_ | refine nw_drewN ?_ _ | refine nw_set ?_ (by first | (simp; done) | (simp; omega) | omega) _))⟩
  · cases hab : aboveB ahi bhi atop btop
    · cases atop
      all_goals
        go_enter Try.func7, Try.ntmps7
        go_wp2_with (first | (go_at_call 22; refine (mayBe_any _ _ _ _ (by assumption) (by assumption)).mono ?_; (rintro e w' ⟨rfl, hb⟩; obtain ⟨n, es, rfl⟩ := below_more hb; clear hb)) | (go_at_call 23; refine (meet_no _ _ _ _ _ _ _ hab).mono ?_; (rintro e w' ⟨rfl, hb⟩; obtain ⟨n, es, rfl⟩ := below_more hb; clear hb)))
        go_ret2
        exact ⟨by simp [two, overB, hab], by (repeat (first | exact Below.refl _ _ | assumption | refine nw_more ?_ _ _ | refine nw_alloc ?_ _ | refine nw_drew ?_ | refine nw_drewN ?_ _ | refine nw_set ?_ (by first | (simp; done) | (simp; omega) | omega) _))⟩
    · cases btop
      all_goals
        go_enter Try.func7, Try.ntmps7
        go_wp2_with (first | (go_at_call 22; refine (mayBe_any _ _ _ _ (by assumption) (by assumption)).mono ?_; (rintro e w' ⟨rfl, hb⟩; obtain ⟨n, es, rfl⟩ := below_more hb; clear hb)) | (go_at_call 23; refine (meet_yes _ _ _ _ _ _ _ hab).mono ?_; (rintro e w' ⟨rfl, hb⟩; obtain ⟨n, es, rfl⟩ := below_more hb; clear hb)))
        go_ret2
        exact ⟨by simp [two, overB, hab], by (repeat (first | exact Below.refl _ _ | assumption | refine nw_more ?_ _ _ | refine nw_alloc ?_ _ | refine nw_drew ?_ | refine nw_drewN ?_ _ | refine nw_set ?_ (by first | (simp; done) | (simp; omega) | omega) _))⟩

def inB (alo ahi blo bhi : ByteArray) (atop btop : Bool) : Bool := match lessB alo blo with
  | true => false
  | false => !aboveB ahi bhi atop btop

set_option maxHeartbeats 1000000 in
theorem in_any (alo ahi blo bhi : ByteArray) (atop btop : Bool) (w : World) (ha : alo.size ≤ maxLen) (hb : ahi.size ≤ maxLen) (hc : blo.size ≤ maxLen) (hd : bhi.size ≤ maxLen) :
    Calls Try.prog 8 #[.agg #[.string alo, .string ahi, .bool atop], .agg #[.string blo, .string bhi, .bool btop]] w fun e w' => e = .returned (two (rangeB alo ahi atop && rangeB blo bhi btop) (inB alo ahi blo bhi atop btop)) ∧ Below w.heap.size w w' := by
  cases hr : rangeB alo ahi atop
  · go_enter Try.func8, Try.ntmps8
    go_wp2_with (first | (go_at_call 22; refine (mayBe_any _ _ _ _ (by assumption) (by assumption)).mono ?_; (rintro e w' ⟨rfl, hb⟩; obtain ⟨n, es, rfl⟩ := below_more hb; clear hb)) | (go_at_call 24; refine (endsAbove_any _ _ _ _ _ _ _).mono ?_; (rintro e w' ⟨rfl, hb⟩; obtain ⟨n, es, rfl⟩ := below_more hb; clear hb)))
    go_ret2
    exact ⟨rfl, by (repeat (first | exact Below.refl _ _ | assumption | refine nw_more ?_ _ _ | refine nw_alloc ?_ _ | refine nw_drew ?_ | refine nw_drewN ?_ _ | refine nw_set ?_ (by first | (simp; done) | (simp; omega) | omega) _))⟩
  cases hq : rangeB blo bhi btop
  · go_enter Try.func8, Try.ntmps8
    go_wp2_with (first | (go_at_call 22; refine (mayBe_any _ _ _ _ (by assumption) (by assumption)).mono ?_; (rintro e w' ⟨rfl, hb⟩; obtain ⟨n, es, rfl⟩ := below_more hb; clear hb)) | (go_at_call 24; refine (endsAbove_any _ _ _ _ _ _ _).mono ?_; (rintro e w' ⟨rfl, hb⟩; obtain ⟨n, es, rfl⟩ := below_more hb; clear hb)))
    go_ret2
    exact ⟨rfl, by (repeat (first | exact Below.refl _ _ | assumption | refine nw_more ?_ _ _ | refine nw_alloc ?_ _ | refine nw_drew ?_ | refine nw_drewN ?_ _ | refine nw_set ?_ (by first | (simp; done) | (simp; omega) | omega) _))⟩
  · cases hl : lessB alo blo
    all_goals
      go_enter Try.func8, Try.ntmps8
      go_wp2_with (first | (go_at_call 22; refine (mayBe_any _ _ _ _ (by assumption) (by assumption)).mono ?_; (rintro e w' ⟨rfl, hb⟩; obtain ⟨n, es, rfl⟩ := below_more hb; clear hb)) | (go_at_call 24; refine (endsAbove_any _ _ _ _ _ _ _).mono ?_; (rintro e w' ⟨rfl, hb⟩; obtain ⟨n, es, rfl⟩ := below_more hb; clear hb)))
      go_ret2
      exact ⟨by simp [two, inB, hl], by (repeat (first | exact Below.refl _ _ | assumption | refine nw_more ?_ _ _ | refine nw_alloc ?_ _ | refine nw_drew ?_ | refine nw_drewN ?_ _ | refine nw_set ?_ (by first | (simp; done) | (simp; omega) | omega) _))⟩

end Go.Proofs.Ytogooibfphilaaa
