/- Contract: the record at the begin. No condition. -/
import Derived.Test.YtaelgappabecgaaCoJ
import Derived.Test.YtaelgappabecgaaCoH
import Derived.Deep.RegionWith
namespace Go.Proofs.Ytaelgappabecgaa
open Go.RowKit

theorem joinP_bounds : ∀ (f at1 : Nat) (r : List ByteArray) (acc : List UInt8), (joinP f at1 r acc).2 ≤ at1 + r.length ∧ (joinP f at1 r acc).1.length ≤ acc.length + 20 * f
  | 0, at1, r, acc => by simp [joinP]
  | f + 1, at1, [], acc => by simp [joinP]
  | f + 1, at1, x :: r, acc => by
    have ht : ((x.data.toList.drop 12).take (min (x.data.toList.getD 11 0).toNat 20)).length ≤ 20 := by rw [List.length_take]; omega
    have ih := joinP_bounds f (at1 + 1) r (acc ++ (x.data.toList.drop 12).take (min (x.data.toList.getD 11 0).toNat 20))
    rw [List.length_append] at ih
    unfold joinP
    split
    · split
      · rw [List.length_cons]; omega
      · dsimp only; rw [List.length_append, List.length_cons]; omega
    · simp

/-- What first tells. -/
def FsOut (w : World) (o : Option ((Int × List Wr) × Nat)) (e : Ending) (w' : World) : Prop := (match o with
  | none => e = .returned (.tuple #[.agg #[.int .i64 0, .slice none 0 0], .int .i64 0])
  | some r => ∃ u, e = .returned (.tuple #[.agg #[.int .i64 r.1.1, u], .int .i64 r.2]) ∧ OwnW w.heap.size w' u r.1.2) ∧ Below w.heap.size w w'
set_option maxRecDepth 100000 in
set_option maxHeartbeats 16000000 in
theorem first_any (w : World) (v : Value) (S : List ByteArray) (run n : Nat) (h : SsAt w v S) (hr : run ≤ 1073741824) (hn : n ≤ 1073741824) :
    Calls Try.prog 21 #[v, .int .i64 run, .int .i64 n] w (FsOut w (firstP S run n)) := by
  have hjb := joinP_bounds 116 0 S []
  have HJ := Lib.hid (fun (w' : World) (hb : Below w.heap.size w w') => joined_any w' v S (h.below hb))
  obtain ⟨p, cap, rfl, hcap⟩ := h.slice
  have H := Lib.hid h
  unfold firstP
  generalize joinP 116 0 S [] = J at *
  obtain ⟨s, m⟩ := J
  dsimp only at *
  rw [List.length_nil, Nat.zero_add, Nat.zero_add] at hjb
  obtain ⟨hm, hs⟩ := hjb
  have HT := Lib.hid (fun w' : World => take_any w' s (by omega))
  clear h
  cases ht : takeP s with
  | none =>
    simp only [ht] at HT
    go_enter Try.func21, Try.ntmps21
    go_wp2_with fail
    refine (HJ.out _ (by (repeat (first | exact Below.refl _ _ | assumption | refine nw_more ?_ _ _ | refine nw_alloc ?_ _ | refine nw_drew ?_ | refine nw_drewN ?_ _ | refine nw_set ?_ (by first | (simp; done) | (simp; omega) | omega) _)))).mono ?_
    rintro e w' ⟨rfl, hb⟩
    obtain ⟨n1, es1, rfl⟩ := below_more hb
    clear hb
    go_wp2_with fail
    refine (HT.out _).mono ?_
    rintro e w' ⟨rfl, hb⟩
    obtain ⟨n2, es2, rfl⟩ := below_more hb
    clear hb
    unfold rTwo
    go_wp2_with fail
    (refine wp_region_quiet_more (by kernel_rfl) (by kernel_rfl) ?_; (repeat (first | go_big_quiet_skip | quiet_step ((first | fail)))); refine wpQuiet_nil ?_; intro _ hw'; obtain ⟨⟨nq, esq⟩, hw''⟩ := hw'; subst hw''; dsimp only)
    go_wp2
    exact bodyPost_ret (v := .tuple #[.agg #[.int .i64 0, .slice none 0 0], .int .i64 0]) (by simp [results, Try.results21, go_sem]) rfl ⟨rfl, by (repeat (first | exact Below.refl _ _ | assumption | refine nw_more ?_ _ _ | refine nw_alloc ?_ _ | refine nw_drew ?_ | refine nw_drewN ?_ _ | refine nw_set ?_ (by first | (simp; done) | (simp; omega) | omega) _))⟩
  | some r =>
    obtain ⟨c, l⟩ := r
    obtain ⟨hok, hrb⟩ := takeP_ok ht
    dsimp only at hok hrb
    simp only [ht] at HT
    obtain ⟨eq, heq⟩ : ∃ b, decide (S.take m = secs (rBytes c l) run n) = b := ⟨_, rfl⟩
    obtain ⟨P, hP⟩ : ∃ P, (if S.take m = secs (rBytes c l) run n then some ((c, l), m) else none) = P := ⟨_, rfl⟩
    have HPE : Hid (P = (if eq then some ((c, l), m) else none)) := Lib.hid (by
      rw [← hP, ← heq]
      by_cases h1 : S.take m = secs (rBytes c l) run n
      · rw [if_pos h1, decide_eq_true h1]; rfl
      · rw [if_neg h1, decide_eq_false h1]; rfl)
    dsimp only
    rw [hP]
    have HEQ := Lib.hid heq
    have HOK := Lib.hid hok
    obtain ⟨-, -, hl64, hall⟩ := rOk_parts hok
    have hsm : ∀ x ∈ l, x.k.size ≤ 140737488355328 ∧ x.s.size ≤ 140737488355328 := fun x hx => wOk_small (List.all_eq_true.1 hall x hx)
    have HSM := Lib.hid hsm
    have hnp : nParts (rBytes c l) ≤ 1000 := by have := rBytes_len hok; unfold nParts; omega
    have HNP := Lib.hid hnp
    clear ht hrb heq hP hok hall hsm hnp
    go_enter Try.func21, Try.ntmps21
    go_wp2_with fail
    refine (HJ.out _ (by (repeat (first | exact Below.refl _ _ | assumption | refine nw_more ?_ _ _ | refine nw_alloc ?_ _ | refine nw_drew ?_ | refine nw_drewN ?_ _ | refine nw_set ?_ (by first | (simp; done) | (simp; omega) | omega) _)))).mono ?_
    rintro e w' ⟨rfl, hb⟩
    obtain ⟨n1, es1, rfl⟩ := below_more hb
    clear hb
    go_wp2_with fail
    refine (HT.out _).mono ?_
    rintro e w2 ⟨⟨u, rfl, ho⟩, hb⟩
    obtain ⟨up, uc, rfl⟩ := ho.slice
    have HWS := Lib.hid (ho.at (by omega) HSM.out)
    have hbe : Below w.heap.size w w2 := nw_trans (by (repeat (first | exact Below.refl _ _ | assumption | refine nw_more ?_ _ _ | refine nw_alloc ?_ _ | refine nw_drew ?_ | refine nw_drewN ?_ _ | refine nw_set ?_ (by first | (simp; done) | (simp; omega) | omega) _))) hb
    have hres : Blc w2 w.heap.size 34 #[.int .i64 0, .slice none 0 0] := Blc.below (by (repeat (first | exact Blc.newAt _ _ _ (by simp; done) | refine Blc.alloc ?_ _ | refine Blc.mre ?_ _ _))) hb
    have HO := Lib.hid (World.ownsRow.mono (base' := w.heap.size) ho (by simp; omega))
    have HBE := Lib.hid hbe
    have HRES := Lib.hid hres
    have hzw : w.heap.size ≤ w2.heap.size := hbe.size
    clear ho hb hbe hres
    unfold rTwo
    go_wp2_with fail
    have HTK := Lib.hid (H.out.take m hm)
    have hmc : m ≤ cap := by omega
    have hres := HRES.out
    have y0 := hres.cell 0
    have y1 := hres.cell 1
    have yf0 := hres.free 0
    have yf1 := hres.free 1
    have yl : Lt w.heap.size w2.heap.size := hres.lt
    cases eq
    case false =>
      have hP := HPE.out
      rw [if_neg (by decide)] at hP
      subst hP
      have hb2 := (hres.set 0 (.int .i64 0)).set 1 (.slice none 0 0)
      have q0 := hb2.cell 0
      have q1 := hb2.cell 1
      have s0 := (hres.set 0 (.int .i64 0)).cell 0
      simp at y0 y1 q0 q1 s0
      clear hres hb2 HRES HO HPE HJ HT
      go_region_with (first | (go_at_call 20; refine (sectorsOf_any _ c _ l run n (HWS.out.below (by (repeat (first | exact Below.refl _ _ | assumption | refine nw_more ?_ _ _ | refine nw_alloc ?_ _ | refine nw_drew ?_ | refine nw_drewN ?_ _ | refine nw_set ?_ (by first | (simp; done) | (simp; omega) | omega) _)))) HOK.out hr hn).mono ?_; rintro e w3 ⟨u3, rfl, ho3, hb3⟩; obtain ⟨q3, c3, rfl⟩ := ho3.form; have HS3 := Lib.hid (ho3.at (by rw [secs_len]; have := HNP.out; omega) (fun s hs => by rw [secs_size hs]; omega)); obtain ⟨n3, es3, rfl⟩ := below_more hb3; clear ho3 hb3) | (go_at_call 36; refine (equal_any _ _ _ (S.take m) (secs (rBytes c l) run n) (HTK.out.below (nw_trans HBE.out (by (repeat (first | exact Below.refl _ _ | assumption | refine nw_more ?_ _ _ | refine nw_alloc ?_ _ | refine nw_drew ?_ | refine nw_drewN ?_ _ | refine nw_set ?_ (by first | (simp; done) | (simp; omega) | omega) _))))) (HS3.out.below (by (repeat (first | exact Below.refl _ _ | assumption | refine nw_more ?_ _ _ | refine nw_alloc ?_ _ | refine nw_drew ?_ | refine nw_drewN ?_ _ | refine nw_set ?_ (by first | (simp; done) | (simp; omega) | omega) _))))).mono ?_; rw [HEQ.out]; (rintro e w' ⟨rfl, hb⟩; obtain ⟨n, es, rfl⟩ := below_more hb; clear hb)))
      all_goals
        go_wp2
        refine bodyPost_ret (v := .tuple #[.agg #[.int .i64 0, .slice none 0 0], .int .i64 0]) (by simp [results, Try.results21, go_sem, q0, q1, s0, yl]) rfl ⟨rfl, ?_⟩
        have hb1 := HBE.out
        (repeat (first | exact Below.refl _ _ | assumption | refine nw_more ?_ _ _ | refine nw_alloc ?_ _ | refine nw_drew ?_ | refine nw_drewN ?_ _ | refine nw_set ?_ (by first | (simp; done) | (simp; omega) | omega) _))
    case true =>
      have hP := HPE.out
      rw [if_pos rfl] at hP
      subst hP
      have hb2 := (hres.set 0 (.int .i64 c)).set 1 (.slice up l.length uc)
      have q0 := hb2.cell 0
      have q1 := hb2.cell 1
      have s0 := (hres.set 0 (.int .i64 c)).cell 0
      have hn2 := not_own HO.out hres (by decide)
      have how2 : OwnW w.heap.size ((w2.setCell ⟨w.heap.size, 0, none⟩ (.int .i64 c)).setCell ⟨w.heap.size, 1, none⟩ (.slice up l.length uc)) (.slice up l.length uc) l :=
        ownsRow_setCell_other (a := ⟨w.heap.size, 1, none⟩) (ownsRow_setCell_other (a := ⟨w.heap.size, 0, none⟩) HO.out hn2 _) hn2 _
      have HO2 := Lib.hid how2
      simp at y0 y1 q0 q1 s0
      clear hres hb2 HRES HO HPE HJ HT how2 hn2
      go_region_with (first | (go_at_call 20; refine (sectorsOf_any _ c _ l run n (HWS.out.below (by (repeat (first | exact Below.refl _ _ | assumption | refine nw_more ?_ _ _ | refine nw_alloc ?_ _ | refine nw_drew ?_ | refine nw_drewN ?_ _ | refine nw_set ?_ (by first | (simp; done) | (simp; omega) | omega) _)))) HOK.out hr hn).mono ?_; rintro e w3 ⟨u3, rfl, ho3, hb3⟩; obtain ⟨q3, c3, rfl⟩ := ho3.form; have HS3 := Lib.hid (ho3.at (by rw [secs_len]; have := HNP.out; omega) (fun s hs => by rw [secs_size hs]; omega)); obtain ⟨n3, es3, rfl⟩ := below_more hb3; clear ho3 hb3) | (go_at_call 36; refine (equal_any _ _ _ (S.take m) (secs (rBytes c l) run n) (HTK.out.below (nw_trans HBE.out (by (repeat (first | exact Below.refl _ _ | assumption | refine nw_more ?_ _ _ | refine nw_alloc ?_ _ | refine nw_drew ?_ | refine nw_drewN ?_ _ | refine nw_set ?_ (by first | (simp; done) | (simp; omega) | omega) _))))) (HS3.out.below (by (repeat (first | exact Below.refl _ _ | assumption | refine nw_more ?_ _ _ | refine nw_alloc ?_ _ | refine nw_drew ?_ | refine nw_drewN ?_ _ | refine nw_set ?_ (by first | (simp; done) | (simp; omega) | omega) _))))).mono ?_; rw [HEQ.out]; (rintro e w' ⟨rfl, hb⟩; obtain ⟨n, es, rfl⟩ := below_more hb; clear hb)))
      all_goals
        go_wp2
        refine bodyPost_ret (v := .tuple #[.agg #[.int .i64 c, .slice up l.length uc], .int .i64 m]) (by simp [results, Try.results21, go_sem, q0, q1, s0, yl]) rfl ⟨⟨_, rfl, OwnW.below HO2.out (by (repeat (first | exact Below.refl _ _ | assumption | refine nw_more ?_ _ _ | refine nw_alloc ?_ _ | refine nw_drew ?_ | refine nw_drewN ?_ _ | refine nw_set ?_ (by first | (simp; done) | (simp; omega) | omega) _)))⟩, ?_⟩
        have hb1 := HBE.out
        (repeat (first | exact Below.refl _ _ | assumption | refine nw_more ?_ _ _ | refine nw_alloc ?_ _ | refine nw_drew ?_ | refine nw_drewN ?_ _ | refine nw_set ?_ (by first | (simp; done) | (simp; omega) | omega) _))
end Go.Proofs.Ytaelgappabecgaa
