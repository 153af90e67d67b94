/- Contracts, five: Both, One, All of package key; the page's own. -/
import Derived.Test.YtogooibfphilaaaKeyD
namespace Go.Proofs.Ytogooibfphilaaa
open Go.RowKit

def keyNext (k : ByteArray) : ByteArray := k ++ ⟨#[0]⟩

set_option maxHeartbeats 1000000 in
theorem one_any (k : ByteArray) (w : World) (hk : k.size ≤ maxLen) :
    Calls Try.prog 17 #[.string k] w fun e w' => e = .returned (rangeTwo (keyB k) k (keyNext k) false) ∧ Below w.heap.size w w' := by
  cases hy : keyB k
  · go_enter Try.func17, Try.ntmps17
    go_wp2_with (first | (go_at_call 26; refine (key_any _ _ (by assumption)).mono ?_; rintro e w' ⟨rfl, rfl⟩))
    refine bodyPost_ret (v := rangeTwo false k k false) (by simp [results, Try.results17, go_sem, rangeTwo]) rfl ⟨rfl, ?_⟩
    (repeat (first | exact Below.refl _ _ | assumption | refine nw_more ?_ _ _ | refine nw_alloc ?_ _ | refine nw_drew ?_ | refine nw_drewN ?_ _ | refine nw_set ?_ (by first | (simp; done) | (simp; omega) | omega) _))
  · have hk2 : k.size ≤ 12 := by simp [keyB] at hy; omega
    go_enter Try.func17, Try.ntmps17
    go_wp2_with (first | (go_at_call 26; refine (key_any _ _ (by assumption)).mono ?_; rintro e w' ⟨rfl, rfl⟩))
    refine bodyPost_ret (v := rangeTwo true k (keyNext k) false) (by simp [results, Try.results17, go_sem, rangeTwo, keyNext]) rfl ⟨rfl, ?_⟩
    (repeat (first | exact Below.refl _ _ | assumption | refine nw_more ?_ _ _ | refine nw_alloc ?_ _ | refine nw_drew ?_ | refine nw_drewN ?_ _ | refine nw_set ?_ (by first | (simp; done) | (simp; omega) | omega) _))

set_option maxHeartbeats 1000000 in
theorem all_any (w : World) :
    Calls Try.prog 25 #[] w fun e w' => e = .returned (.agg #[.string ⟨#[]⟩, .string ⟨#[]⟩, .bool true]) ∧ Below w.heap.size w w' := by
  go_enter Try.func25, Try.ntmps25
  go_wp2
  refine bodyPost_ret (v := .agg #[.string ⟨#[]⟩, .string ⟨#[]⟩, .bool true]) (by simp [results, Try.results25, go_sem]) rfl ⟨rfl, ?_⟩
  (repeat (first | exact Below.refl _ _ | assumption | refine nw_more ?_ _ _ | refine nw_alloc ?_ _ | refine nw_drew ?_ | refine nw_drewN ?_ _ | refine nw_set ?_ (by first | (simp; done) | (simp; omega) | omega) _))

def bothHi (alo ahi blo bhi : ByteArray) (atop btop : Bool) : ByteArray := match meetTop ahi bhi atop btop, lessB (meetHi ahi bhi atop btop) (maxB alo blo) with
  | false, true => maxB alo blo
  | _, _ => meetHi ahi bhi atop btop

theorem meet_any (alo ahi blo bhi : ByteArray) (atop btop : Bool) (w : World) :
    Calls Try.prog 23 #[.agg #[.string alo, .string ahi, .bool atop], .agg #[.string blo, .string bhi, .bool btop]] w fun e w' => e = .returned (.agg #[.string (maxB alo blo), .string (meetHi ahi bhi atop btop), .bool (meetTop ahi bhi atop btop)]) ∧ Below w.heap.size w w' := by
  cases hab : aboveB ahi bhi atop btop
  · have h := meet_no alo ahi blo bhi atop btop w hab
    simp only [meetHi, meetTop, hab]; exact h
  · have h := meet_yes alo ahi blo bhi atop btop w hab
    simp only [meetHi, meetTop, hab]; exact h

set_option maxHeartbeats 2000000 in
theorem both_any (alo ahi blo bhi : ByteArray) (atop btop : Bool) (w : World) (ha : alo.size ≤ maxLen) (hb : ahi.size ≤ maxLen) (hc : blo.size ≤ maxLen) (hd : bhi.size ≤ maxLen) :
    Calls Try.prog 9 #[.agg #[.string alo, .string ahi, .bool atop], .agg #[.string blo, .string bhi, .bool btop]] w fun e w' => e = .returned (rangeTwo (rangeB alo ahi atop && rangeB blo bhi btop) (maxB alo blo) (bothHi alo ahi blo bhi atop btop) (meetTop ahi bhi atop btop)) ∧ Below w.heap.size w w' := by
  cases hr : rangeB alo ahi atop
  · go_enter Try.func9, Try.ntmps9
    go_wp2_with (first | (go_at_call 22; refine (mayBe_any _ _ _ _ (by assumption) (by assumption)).mono ?_; (rintro e w' ⟨rfl, hb⟩; obtain ⟨n, es, rfl⟩ := below_more hb; clear hb)))
    refine bodyPost_ret (v := rangeTwo false alo alo false) (by simp [results, Try.results9, go_sem, rangeTwo]) rfl ⟨rfl, ?_⟩
    (repeat (first | exact Below.refl _ _ | assumption | refine nw_more ?_ _ _ | refine nw_alloc ?_ _ | refine nw_drew ?_ | refine nw_drewN ?_ _ | refine nw_set ?_ (by first | (simp; done) | (simp; omega) | omega) _))
  cases hq : rangeB blo bhi btop
  · go_enter Try.func9, Try.ntmps9
    go_wp2_with (first | (go_at_call 22; refine (mayBe_any _ _ _ _ (by assumption) (by assumption)).mono ?_; (rintro e w' ⟨rfl, hb⟩; obtain ⟨n, es, rfl⟩ := below_more hb; clear hb)))
    refine bodyPost_ret (v := rangeTwo false alo alo false) (by simp [results, Try.results9, go_sem, rangeTwo]) rfl ⟨rfl, ?_⟩
    (repeat (first | exact Below.refl _ _ | assumption | refine nw_more ?_ _ _ | refine nw_alloc ?_ _ | refine nw_drew ?_ | refine nw_drewN ?_ _ | refine nw_set ?_ (by first | (simp; done) | (simp; omega) | omega) _))
  · cases ht : meetTop ahi bhi atop btop
    · cases hl : lessB (meetHi ahi bhi atop btop) (maxB alo blo)
      · go_enter Try.func9, Try.ntmps9
        go_wp2_with (first | (go_at_call 22; refine (mayBe_any _ _ _ _ (by assumption) (by assumption)).mono ?_; (rintro e w' ⟨rfl, hb⟩; obtain ⟨n, es, rfl⟩ := below_more hb; clear hb)) | (go_at_call 23; refine (meet_any _ _ _ _ _ _ _).mono ?_; (rintro e w' ⟨rfl, hb⟩; obtain ⟨n, es, rfl⟩ := below_more hb; clear hb)))
        refine bodyPost_ret (v := rangeTwo true (maxB alo blo) (meetHi ahi bhi atop btop) false) (by simp [results, Try.results9, go_sem, rangeTwo]) rfl ⟨by simp [bothHi, ht, hl], ?_⟩
        (repeat (first | exact Below.refl _ _ | assumption | refine nw_more ?_ _ _ | refine nw_alloc ?_ _ | refine nw_drew ?_ | refine nw_drewN ?_ _ | refine nw_set ?_ (by first | (simp; done) | (simp; omega) | omega) _))
      · go_enter Try.func9, Try.ntmps9
        go_wp2_with (first | (go_at_call 22; refine (mayBe_any _ _ _ _ (by assumption) (by assumption)).mono ?_; (rintro e w' ⟨rfl, hb⟩; obtain ⟨n, es, rfl⟩ := below_more hb; clear hb)) | (go_at_call 23; refine (meet_any _ _ _ _ _ _ _).mono ?_; (rintro e w' ⟨rfl, hb⟩; obtain ⟨n, es, rfl⟩ := below_more hb; clear hb)))
        refine bodyPost_ret (v := rangeTwo true (maxB alo blo) (maxB alo blo) false) (by simp [results, Try.results9, go_sem, rangeTwo]) rfl ⟨by simp [bothHi, ht, hl], ?_⟩
        (repeat (first | exact Below.refl _ _ | assumption | refine nw_more ?_ _ _ | refine nw_alloc ?_ _ | refine nw_drew ?_ | refine nw_drewN ?_ _ | refine nw_set ?_ (by first | (simp; done) | (simp; omega) | omega) _))
    · go_enter Try.func9, Try.ntmps9
      go_wp2_with (first | (go_at_call 22; refine (mayBe_any _ _ _ _ (by assumption) (by assumption)).mono ?_; (rintro e w' ⟨rfl, hb⟩; obtain ⟨n, es, rfl⟩ := below_more hb; clear hb)) | (go_at_call 23; refine (meet_any _ _ _ _ _ _ _).mono ?_; (rintro e w' ⟨rfl, hb⟩; obtain ⟨n, es, rfl⟩ := below_more hb; clear hb)))
      refine bodyPost_ret (v := rangeTwo true (maxB alo blo) (meetHi ahi bhi atop btop) true) (by simp [results, Try.results9, go_sem, rangeTwo]) rfl ⟨by simp [bothHi, ht], ?_⟩
      (repeat (first | exact Below.refl _ _ | assumption | refine nw_more ?_ _ _ | refine nw_alloc ?_ _ | refine nw_drew ?_ | refine nw_drewN ?_ _ | refine nw_set ?_ (by first | (simp; done) | (simp; omega) | omega) _))

end Go.Proofs.Ytogooibfphilaaa
