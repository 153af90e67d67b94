/- Contracts: Bytes, Sectors, slices.Equal of strings. No condition. -/
import Derived.Test.YtaelgappabecgaaCoI
namespace Go.Proofs.Ytaelgappabecgaa
open Go.RowKit

set_option maxHeartbeats 2000000 in
theorem equal_any (w : World) (v1 v2 : Value) (S1 S2 : List ByteArray) (h1 : SsAt w v1 S1) (h2 : SsAt w v2 S2) :
    Calls Try.prog 36 #[v1, v2] w fun e w' => e = .returned (.bool (decide (S1 = S2))) ∧ Below w.heap.size w w' := by
  have l1 := h1.1
  have l2 := h2.1
  obtain ⟨p2, c2, e2, -⟩ := h2.slice
  rcases h1.form with ⟨rfl, p1, c1, rfl⟩ | ⟨b1, o1, c1, rfl, hp1, -, hb1, hc1⟩
  · rw [e2]
    refine (Try.slices_Equal_string_empty p1 p2 c1 S2.length c2 w (by omega)).mono ?_
    rintro e w' ⟨rfl, rfl⟩
    refine ⟨ret_bool ?_, Below.refl _ _⟩
    cases S2 <;> simp
  · by_cases hl : S1.length = S2.length
    · rcases h2.form with ⟨rfl, -⟩ | ⟨b2, o2, d2, rfl, hp2, -, hb2, hc2⟩
      · rw [hl] at hp1; exact absurd hp1 (Nat.lt_irrefl 0)
      · refine (Try.slices_Equal_string b1 o1 S1.length c1 b2 o2 S2.length d2 S1 S2 w (Nat.le_refl _) (Nat.le_refl _) (by omega) (by omega) (fun j hj => hc1 j hj) (fun j hj => hc2 j hj)).mono ?_
        rintro e w' ⟨rfl, q, rfl⟩
        refine ⟨ret_bool ?_, nw_drewN (Below.refl _ _) q⟩
        rw [List.take_length, List.take_length]
    · rw [e2]
      refine (Try.slices_Equal_string_lens _ p2 S1.length c1 S2.length c2 w hl).mono ?_
      rintro e w' ⟨rfl, rfl⟩
      refine ⟨ret_bool ?_, Below.refl _ _⟩
      rw [decide_eq_false (fun e => hl (by rw [e]))]

set_option maxHeartbeats 4000000 in
theorem bytes_any (w : World) (c : Int) (v : Value) (l : List Wr) (h : WsAt w v l) :
    Calls Try.prog 13 #[.agg #[.int .i64 c, v]] w fun e w' => e = .returned (.tuple #[.string (toB (if rOk c l then rBytes c l else [])), .int .i64 (if rOk c l then 0 else 1)]) ∧ Below w.heap.size w w' := by
  obtain ⟨p, cap, rfl, hcap⟩ := h.slice
  have H := Lib.hid h
  obtain ⟨ok, hok⟩ : ∃ ok, rOk c l = ok := ⟨_, rfl⟩
  rw [hok]
  have HOK := Lib.hid hok
  clear h hok
  go_enter Try.func13, Try.ntmps13
  go_wp2_with fail
  refine (mayBe_any _ c _ l (H.out.below (by (repeat (first | exact Below.refl _ _ | assumption | refine nw_more ?_ _ _ | refine nw_alloc ?_ _ | refine nw_drew ?_ | refine nw_drewN ?_ _ | refine nw_set ?_ (by first | (simp; done) | (simp; omega) | omega) _))))).mono ?_
  rw [HOK.out]
  (rintro e w' ⟨rfl, hb⟩; obtain ⟨n, es, rfl⟩ := below_more hb; clear hb)
  cases ok
  case false =>
    go_wp2
    exact bodyPost_ret (v := .tuple #[.string { data := #[] }, .int .i64 1]) (by simp [results, Try.results13, go_sem]) rfl ⟨rfl, by (repeat (first | exact Below.refl _ _ | assumption | refine nw_more ?_ _ _ | refine nw_alloc ?_ _ | refine nw_drew ?_ | refine nw_drewN ?_ _ | refine nw_set ?_ (by first | (simp; done) | (simp; omega) | omega) _))⟩
  case true =>
    have hbl := rBytes_len HOK.out
    go_wp2_with fail
    refine (bytesOf_any _ c _ l (H.out.below (by (repeat (first | exact Below.refl _ _ | assumption | refine nw_more ?_ _ _ | refine nw_alloc ?_ _ | refine nw_drew ?_ | refine nw_drewN ?_ _ | refine nw_set ?_ (by first | (simp; done) | (simp; omega) | omega) _)))) HOK.out).mono ?_
    generalize hLL : rBytes c l = LL at *
    rintro e w' ⟨u2, rfl, h2, hb2⟩
    obtain ⟨n2, es2, rfl⟩ := below_more hb2
    obtain ⟨g, gc, rfl, hgc⟩ : ∃ g gc, u2 = .slice (some ⟨g, 0, none⟩) LL.length gc ∧ ∀ j (hj : j < LL.length), (more (more (w.alloc (Obj.cells #[.int .i64 c, .slice p l.length cap] 34)) n es) n2 es2).cell? ⟨g, 0 + j, none⟩ = some (.int .u8 (LL[j].toNat : Int)) := by
      rcases h2.form with ⟨e0, -⟩ | ⟨g, gc, e, -, -, -, hc⟩
      · rw [e0] at hbl; simp at hbl
      · exact ⟨g, gc, e, fun j hj => by rw [Nat.zero_add]; exact hc j hj⟩
    have hcv := conv_bs _ g 0 gc _ hgc
    clear hb2 h2 hgc
    go_wp2
    exact bodyPost_ret (v := .tuple #[.string (toB LL), .int .i64 0]) (by simp [results, Try.results13, go_sem]) rfl ⟨by simp [hLL], by (repeat (first | exact Below.refl _ _ | assumption | refine nw_more ?_ _ _ | refine nw_alloc ?_ _ | refine nw_drew ?_ | refine nw_drewN ?_ _ | refine nw_set ?_ (by first | (simp; done) | (simp; omega) | omega) _))⟩

set_option maxHeartbeats 4000000 in
theorem sectors_any (w : World) (c : Int) (v : Value) (l : List Wr) (run n : Nat) (h : WsAt w v l) (hr : run ≤ 1073741824) (hn : n ≤ 1073741824) :
    Calls Try.prog 7 #[.agg #[.int .i64 c, v], .int .i64 run, .int .i64 n] w fun e w' => ∃ u, e = .returned (.tuple #[u, .int .i64 (if rOk c l then 0 else 1)]) ∧ OwnS w.heap.size w' u (if rOk c l then secs (rBytes c l) run n else []) ∧ Below w.heap.size w w' := by
  obtain ⟨p, cap, rfl, hcap⟩ := h.slice
  have H := Lib.hid h
  have hrb : (decide (0 ≤ (run : Int)) && decide ((run : Int) ≤ 1073741824)) = true := by simp; omega
  have hnb : (decide (0 ≤ (n : Int)) && decide ((n : Int) ≤ 1073741824)) = true := by simp; omega
  have HRB := Lib.hid hrb
  have HNB := Lib.hid hnb
  obtain ⟨ok, hok⟩ : ∃ ok, rOk c l = ok := ⟨_, rfl⟩
  rw [hok]
  have HOK := Lib.hid hok
  clear h hok hrb hnb
  go_enter Try.func7, Try.ntmps7
  go_wp2_with fail
  refine (mayBe_any _ c _ l (H.out.below (by (repeat (first | exact Below.refl _ _ | assumption | refine nw_more ?_ _ _ | refine nw_alloc ?_ _ | refine nw_drew ?_ | refine nw_drewN ?_ _ | refine nw_set ?_ (by first | (simp; done) | (simp; omega) | omega) _))))).mono ?_
  rw [HOK.out]
  rintro e w' ⟨rfl, hb⟩
  obtain ⟨n1, es1, rfl⟩ := below_more hb
  clear hb
  cases ok
  case false =>
    go_wp2
    refine bodyPost_ret (v := .tuple #[.slice none 0 0, .int .i64 1]) (by simp [results, Try.results7, go_sem]) rfl ⟨_, rfl, ?_, ?_⟩
    · exact OwnS.nil _ _
    · (repeat (first | exact Below.refl _ _ | assumption | refine nw_more ?_ _ _ | refine nw_alloc ?_ _ | refine nw_drew ?_ | refine nw_drewN ?_ _ | refine nw_set ?_ (by first | (simp; done) | (simp; omega) | omega) _))
  case true =>
    go_wp2_with (first | (go_at_call 19; refine (isNumber_any _ _).mono ?_; (first | rw [HRB.out] | rw [HNB.out]); rintro e w' ⟨rfl, rfl⟩))
    refine (sectorsOf_any _ c _ l run n (H.out.below (by (repeat (first | exact Below.refl _ _ | assumption | refine nw_more ?_ _ _ | refine nw_alloc ?_ _ | refine nw_drew ?_ | refine nw_drewN ?_ _ | refine nw_set ?_ (by first | (simp; done) | (simp; omega) | omega) _)))) HOK.out hr hn).mono ?_
    rintro e w' ⟨u, rfl, ho, hb⟩
    have HO := Lib.hid (World.ownsRow.mono (base' := w.heap.size) ho (by simp; omega))
    have HB : Hid (Below w.heap.size w w') := Lib.hid (nw_trans (by (repeat (first | exact Below.refl _ _ | assumption | refine nw_more ?_ _ _ | refine nw_alloc ?_ _ | refine nw_drew ?_ | refine nw_drewN ?_ _ | refine nw_set ?_ (by first | (simp; done) | (simp; omega) | omega) _))) hb)
    obtain ⟨q, qc, rfl⟩ := ho.form
    clear ho hb
    go_wp2
    refine bodyPost_ret (v := .tuple #[.slice q (secs (rBytes c l) run n).length qc, .int .i64 0]) (by simp [results, Try.results7, go_sem]) rfl ⟨_, rfl, HO.out, HB.out⟩
end Go.Proofs.Ytaelgappabecgaa
