/- WaitEnds returns true. -/
import Derived.Test.YthkpeddgcglpcaaWaitR
import Derived.Deep.DeepCutAuto
import Derived.Deep.RegionLaw
namespace Go.Proofs.Ythkpeddgcglpcaa
open Go.RowKit

theorem restL_for {v : Int} {l : List Wt} {m : Nat} (h : ∀ z ∈ l, z.2.length ≤ m) : ∀ y ∈ restL v l, y.2.length ≤ m := by
  induction l with
  | nil => exact h
  | cons x r ih =>
    have hr := ih (fun z hz => h z (List.mem_cons_of_mem _ hz))
    rw [restL]
    split
    · exact hr
    · intro y hy
      rcases List.mem_cons.1 hy with rfl | hy
      · exact Nat.le_trans (restF_len v x.2) (h x (List.mem_cons_self ..))
      · exact hr y hy
theorem restL_keep {v : Int} {x : Wt} {r : List Wt} (h : ¬ x.1 = v) : restL v (x :: r) = (x.1, restF v x.2) :: restL v r := by rw [restL, if_neg h]
theorem restL_drop {v : Int} {x : Wt} {r : List Wt} (h : x.1 = v) : restL v (x :: r) = restL v r := by rw [restL, if_pos h]
theorem OwnI.slice {B : Nat} {w : World} {u : Value} {l : List Int} (ho : OwnI B w u l) : ∃ q qc, u = .slice q l.length qc := by
  rcases ho.2 with ⟨rfl, h0⟩ | ⟨g, c, cur, rfl, -⟩
  · exact ⟨none, 0, by rw [h0]⟩
  · exact ⟨_, _, rfl⟩
theorem OwnI.snoc {B : Nat} {w : World} {v : Value} {l : List Int} {y : Int} (h : w.ownsRow B 3 1 v (l.length + 1) (l.map (Value.int .i64) ++ [.int .i64 y])) : OwnI B w v (l ++ [y]) := by
  unfold OwnI; rw [List.length_append, List.map_append]; exact h
theorem BoxW.below {B : Nat} {w w' : World} {X : Nat} {o : Int} {u : Value} (h : BoxW B w X o u) (hb : Below w.heap.size w w') : BoxW B w' X o u := own_below h hb
theorem OwnI.below {B : Nat} {w w' : World} {u : Value} {l : List Int} (h : OwnI B w u l) (hb : Below w.heap.size w w') : OwnI B w' u l := own_below h hb
theorem OwnW.below {B : Nat} {w w' : World} {u : Value} {l : List Wv} (h : OwnW B w u l) (hb : Below w.heap.size w w') : OwnW B w' u l := own_below h hb
theorem own_not {B : Nat} {w : World} {v : Value} {P : List Wv} (h : OwnW B w v P) : v.ownBlock ≠ some w.heap.size := by
  intro e
  have := (World.ownsRow.lt h _ e).2
  omega

set_option maxRecDepth 100000 in
set_option maxHeartbeats 8000000 in
theorem waitEnds_any (w : World) (lv : Value) (nl : Nat) (F : Nat → List Wv) (pa pn : Option Addr) (na nn ca cn : Nat) (h : LLAt w lv nl F) (hna : na ≤ 140737488355328) (hnn : nn ≤ 140737488355328) :
    Calls Try.prog 3 #[.agg #[lv, .slice pa na ca, .slice pn nn cn]] w fun e w' => e = .returned (.bool true) ∧ Below w.heap.size w w' := by
  have HL := Lib.hid h
  obtain ⟨pl, cl, rfl, hnl, -⟩ := h
  obtain ⟨i0, hi, hz0, hz1, hz2⟩ := info_parts info_wait
  have HIW := Lib.hid hi
  obtain ⟨j0, hj, hy0, hy1, hy2⟩ := info_parts info_int
  have HJ := Lib.hid hj
  clear hi hj
  go_enter Try.func3, Try.ntmps3
  go_wp2_with fail
  refine (heavy4_any _ _ nl F pa pn na nn ca cn (HL.out.below (by (repeat (first | exact Below.refl _ _ | assumption | refine nw_more ?_ _ _ | refine nw_alloc ?_ _ | refine nw_drew ?_ | refine nw_drewN ?_ _ | refine nw_set ?_ (by first | (simp; done) | (simp; omega) | omega) _)))) hna hnn).mono ?_
  rintro e w' ⟨⟨b, rfl, hS⟩, hb⟩
  obtain ⟨n, es, rfl⟩ := below_more hb
  have HS := Lib.hid hS
  clear hb hS
  cases b
  rotate_left
  · go_wp2
    go_ret
    exact ⟨rfl, by (repeat (first | exact Below.refl _ _ | assumption | refine nw_more ?_ _ _ | refine nw_alloc ?_ _ | refine nw_drew ?_ | refine nw_drewN ?_ _ | refine nw_set ?_ (by first | (simp; done) | (simp; omega) | omega) _))⟩
  · have HS1 : Hid (Small nl F) := Lib.hid (HS.out rfl)
    have hb0 : (more (w.alloc (Obj.cells #[.slice pl nl cl, .slice pa na ca, .slice pn nn cn] 25)) n es).cell? ⟨w.heap.size, 0, none⟩ = some (.slice pl nl cl) := by simp [go_sem]
    have hb1 : (more (w.alloc (Obj.cells #[.slice pl nl cl, .slice pa na ca, .slice pn nn cn] 25)) n es).cell? ⟨w.heap.size, 1, none⟩ = some (.slice pa na ca) := by simp [go_sem]
    have HB0 : Hid (Below w.heap.size w (more (w.alloc (Obj.cells #[.slice pl nl cl, .slice pa na ca, .slice pn nn cn] 25)) n es)) := Lib.hid (by (repeat (first | exact Below.refl _ _ | assumption | refine nw_more ?_ _ _ | refine nw_alloc ?_ _ | refine nw_drew ?_ | refine nw_drewN ?_ _ | refine nw_set ?_ (by first | (simp; done) | (simp; omega) | omega) _)))
    have hbx : Lt w.heap.size (more (w.alloc (Obj.cells #[.slice pl nl cl, .slice pa na ca, .slice pn nn cn] 25)) n es).heap.size := by simp [go_sem]
    generalize hW : more (w.alloc (Obj.cells #[.slice pl nl cl, .slice pa na ca, .slice pn nn cn] 25)) n es = W at *
    clear hW
    have HLW := Lib.hid (HL.out.below HB0.out)
    generalize hB : w.heap.size = bx at hb0 hb1 hbx
    have HBX := Lib.hid hB
    have HC0 := Lib.hid hb0
    have HC1 := Lib.hid hb1
    clear hB HS HL hb0 hb1
    go_wp2_with fail
    go_loopg [3, 4] 9 (fun g s3 s4 wr => ∃ k : Nat, k ≤ 8 ∧ g + k = 9 ∧ s4 = .int .i64 k ∧ Hid (OwnI W.heap.size wr s3 (eTake na k)) ∧ Hid (Below W.heap.size W wr))
    case atStart => exact ⟨0, by omega, rfl, rfl, OwnI.nil _ _, Below.refl _ _⟩
    case round =>
      obtain ⟨k, hk, hg, rfl, HA, HB⟩ := hrel
      obtain rfl : gk = 9 - k := by omega
      clear hg
      by_cases hlt : k < 8
      · have hc1 : wr.cell? ⟨bx, 1, none⟩ = some (.slice pa na ca) := by rw [HB.out.cell (p := ⟨bx, 1, none⟩) hbx.out]; exact HC1.out
        have HO : Hid (wr.ownsRow W.heap.size 3 1 _ k ((eTake na k).map (Value.int .i64))) := Lib.hid (by have h := HA.out; unfold OwnI at h; rw [e_len] at h; exact h)
        have HE : Hid ((1 : Int) + ((k : Int) * 5 + (na : Int)) % 8 = eAge na k) := Lib.hid (by unfold eAge; omega)
        clear HA
        go_wp2_with (at_builtin; refine wpList_append_own _ rfl _ _ 23 rfl W.heap.size 3 j0 (.int .i64 0) 1 8 Try.underlying23 HJ.out hy0 hy1 hy2 rfl (by decide) _ k _ rfl (own_below HO.out (by (repeat (first | exact Below.refl _ _ | assumption | refine nw_more ?_ _ _ | refine nw_alloc ?_ _ | refine nw_drew ?_ | refine nw_drewN ?_ _ | refine nw_set ?_ (by first | (simp; done) | (simp; omega) | omega) _)))) ⟨_, 0, none⟩ 1 1 [.int .i64 (1 + ((k : Int) * 5 + (na : Int)) % 8)] rfl rfl ?d1 ?d2 ?d3 ?d4 ?d5 ?_)
        case d1 => exact news1 (by simp [go_sem])
        case d2 => exact news1_one rfl
        case d3 => unfold maxLen; omega
        case d4 => omega
        case d5 => have := HB.out.size; simp; omega
        · intro v' w1 hown' hgrow hnil
          rw [HE.out] at hown'
          have HA' := Lib.hid (e_snocI hown')
          have HB' := Lib.hid (below_append (w := W) (by have hbel := HB.out; (repeat (first | exact Below.refl _ _ | assumption | refine nw_more ?_ _ _ | refine nw_alloc ?_ _ | refine nw_drew ?_ | refine nw_drewN ?_ _ | refine nw_set ?_ (by first | (simp; done) | (simp; omega) | omega) _))) (own_below HO.out (by (repeat (first | exact Below.refl _ _ | assumption | refine nw_more ?_ _ _ | refine nw_alloc ?_ _ | refine nw_drew ?_ | refine nw_drewN ?_ _ | refine nw_set ?_ (by first | (simp; done) | (simp; omega) | omega) _)))) hgrow)
          clear hown' hgrow hnil HO HB
          go_wp2
          go_roundg (9 - k - 1)
          case measure => omega
          case rel => exact ⟨k + 1, by omega, by omega, by go_num, HA', HB'⟩
      · have e : k = 8 := by omega
        have HV : Hid (IntsAt wr _ (endAges na)) := Lib.hid (by have h := HA.out.at (by rw [e_len]; omega); rw [e] at h; exact h)
        have hc0 : wr.cell? ⟨bx, 0, none⟩ = some (.slice pl nl cl) := by rw [HB.out.cell (p := ⟨bx, 0, none⟩) hbx.out]; exact HC0.out
        have HLA := Lib.hid (HLW.out.below HB.out)
        have HBA : Hid (Below w.heap.size w wr) := Lib.hid (nw_trans HB0.out HB.out)
        have hbA : Lt bx wr.heap.size := Nat.lt_of_lt_of_le hbx.out HB.out.size
        obtain ⟨ag, ao, ac, rfl, hag, hac⟩ := end_cells HV.out
        have HAC := Lib.hid hac
        clear e HA HB HC0 HC1 HLW HB0 hbx hac
        go_wp2_with fail
        go_loopg [5] (nl + 1) (fun g s5 wx => (∃ n es, wx = more wr n es) ∧ ∃ i : Nat, i ≤ nl ∧ g + i = nl + 1 ∧ s5 = .int .i64 i)
        case atStart => exact ⟨below_more (Below.refl _ _), 0, Nat.zero_le _, rfl, rfl⟩
        case round =>
          obtain ⟨⟨n, es, rfl⟩, i, hil, hg, rfl⟩ := hrel
          obtain rfl : gk = nl + 1 - i := by omega
          clear hg
          by_cases hin : i < nl ∧ i < 5
          rotate_left
          · have HIN := Lib.hid hin
            by_cases hi1 : i < nl
            · have hi5 : decide ((i : Int) < 5) = false := by simp; omega
              clear hin
              go_wp2_with (first | (go_at_call 17; refine (wakes4_any _).mono ?_; (rintro e w' ⟨rfl, hb⟩; obtain ⟨n, es, rfl⟩ := below_more hb; clear hb)))
              go_ret
              exact ⟨rfl, by have hbel := HBA.out; (repeat (first | exact Below.refl _ _ | assumption | refine nw_more ?_ _ _ | refine nw_alloc ?_ _ | refine nw_drew ?_ | refine nw_drewN ?_ _ | refine nw_set ?_ (by first | (simp; done) | (simp; omega) | omega) _))⟩
            · clear hin
              go_wp2_with (first | (go_at_call 17; refine (wakes4_any _).mono ?_; (rintro e w' ⟨rfl, hb⟩; obtain ⟨n, es, rfl⟩ := below_more hb; clear hb)))
              go_ret
              exact ⟨rfl, by have hbel := HBA.out; (repeat (first | exact Below.refl _ _ | assumption | refine nw_more ?_ _ _ | refine nw_alloc ?_ _ | refine nw_drew ?_ | refine nw_drewN ?_ _ | refine nw_set ?_ (by first | (simp; done) | (simp; omega) | omega) _))⟩
          · obtain ⟨hi1, hi2⟩ := hin
            have hi5 : decide ((i : Int) < 5) = true := by simp; omega
            obtain ⟨qp, qc, qe, -, hq⟩ := HLA.out
            obtain ⟨rfl, rfl⟩ : pl = qp ∧ cl = qc := by simpa using qe
            obtain ⟨gb, go, u, rfl, hgb, hgc, hraw, -, -⟩ := hq i hi1
            have hgL : Lt gb wr.heap.size := hgb
            have hsm := HS1.out i hi1
            have HP := Lib.hid (hraw.at (by have := hsm.1; omega) (fun x hx => by have := hsm.2 x hx; omega))
            have HSM := Lib.hid hsm
            clear qe hq hraw hgb hsm
            go_wp2_with fail
            refine (copyWaits_any _ _ (F i) (HP.out.below (by (repeat (first | exact Below.refl _ _ | assumption | refine nw_more ?_ _ _ | refine nw_alloc ?_ _ | refine nw_drew ?_ | refine nw_drewN ?_ _ | refine nw_set ?_ (by first | (simp; done) | (simp; omega) | omega) _))))).mono ?_
            rintro e w1 ⟨u1, Q, rfl, hQ, hOW, hFO, hb⟩
            have HBC : Hid (Below wr.heap.size wr w1) := Lib.hid (nw_trans (by (repeat (first | exact Below.refl _ _ | assumption | refine nw_more ?_ _ _ | refine nw_alloc ?_ _ | refine nw_drew ?_ | refine nw_drewN ?_ _ | refine nw_set ?_ (by first | (simp; done) | (simp; omega) | omega) _))) hb)
            have HQN := Lib.hid (nil_ok hFO)
            have hQl : Q.length ≤ 400 := by have h1 := congrArg List.length hQ; rw [List.length_map, List.length_map] at h1; have := HSM.out.1; omega
            have HQF : Hid (∀ x ∈ Q, x.f.length ≤ 400) := Lib.hid (fun x hx => by
              have h1 : x.pl ∈ (F i).map Wv.pl := by rw [← hQ]; exact List.mem_map_of_mem (f := Wv.pl) hx
              obtain ⟨y, hy, e⟩ := List.mem_map.1 h1
              have h2 := HSM.out.2 y hy
              have h3 : y.f = x.f := congrArg Prod.snd e
              rw [← h3]; exact h2)
            have HWV : Hid (WvAt w1 u1 Q) := Lib.hid (WvAt.own hOW (by omega) (fun x hx => (hFO x hx).at (by have := HQF.out x hx; omega)))
            clear hQ hOW hFO hb HP
            generalize hl0 : Q.map Wv.pl = l0
            have HL0 := Lib.hid hl0
            have HW0 : Hid (WaitsAt w1 u1 l0) := Lib.hid ⟨Q, hl0, HWV.out⟩
            clear hl0
            cases hmb : mayB l0
            · have HMB := Lib.hid hmb
              clear hmb
              go_wp2_with (first | (go_at_call 9; refine (refWaits_any _ _ l0 HW0.out).mono ?_; rw [HMB.out]; (rintro e w' ⟨rfl, hb⟩; obtain ⟨n, es, rfl⟩ := below_more hb; clear hb)))
              go_roundg (nl + 1 - i - 1)
              case measure => omega
              case rel => exact ⟨below_more (nw_trans HBC.out (by (repeat (first | exact Below.refl _ _ | assumption | refine nw_more ?_ _ _ | refine nw_alloc ?_ _ | refine nw_drew ?_ | refine nw_drewN ?_ _ | refine nw_set ?_ (by first | (simp; done) | (simp; omega) | omega) _)))), i + 1, by omega, by omega, by go_num⟩
            · have HMB := Lib.hid hmb
              have h6 : Q.length ≤ 6 := by have h1 := may_len hmb; rw [← HL0.out, List.length_map] at h1; exact h1
              clear hmb
              cases h8 : (allL l0).all (inAges 8)
              · have H8 := Lib.hid h8
                clear h8
                (go_wp2_with fail; refine (refWaits_any _ _ l0 HW0.out).mono ?_; rw [HMB.out]; (rintro e w' ⟨rfl, hb⟩; obtain ⟨n, es, rfl⟩ := below_more hb; clear hb); go_wp2_with fail; refine (all_any _ _ Q (HWV.out.below (by (repeat (first | exact Below.refl _ _ | assumption | refine nw_more ?_ _ _ | refine nw_alloc ?_ _ | refine nw_drew ?_ | refine nw_drewN ?_ _ | refine nw_set ?_ (by first | (simp; done) | (simp; omega) | omega) _)))) HQN.out h6 (fun x hx => Nat.le_trans (HQF.out x hx) (by omega))).mono ?_; rintro e w' ⟨u2, rfl, hu2, hb2⟩; rw [HL0.out] at hu2; have HU2 := Lib.hid hu2; obtain ⟨n2, es2, rfl⟩ := below_more hb2; clear hb2 hu2; go_wp2_with fail; refine (refAges_any _ _ _ (endAges na) (allL l0) (HV.out.below (nw_trans HBC.out (by (repeat (first | exact Below.refl _ _ | assumption | refine nw_more ?_ _ _ | refine nw_alloc ?_ _ | refine nw_drew ?_ | refine nw_drewN ?_ _ | refine nw_set ?_ (by first | (simp; done) | (simp; omega) | omega) _))))) HU2.out (end_unlike na) (by rw [end_len]; omega)).mono ?_; rw [end_len, H8.out]; (rintro e w' ⟨rfl, hb⟩; obtain ⟨n, es, rfl⟩ := below_more hb; clear hb))
                go_wp2
                go_roundg (nl + 1 - i - 1)
                case measure => omega
                case rel => exact ⟨below_more (nw_trans HBC.out (by (repeat (first | exact Below.refl _ _ | assumption | refine nw_more ?_ _ _ | refine nw_alloc ?_ _ | refine nw_drew ?_ | refine nw_drewN ?_ _ | refine nw_set ?_ (by first | (simp; done) | (simp; omega) | omega) _)))), i + 1, by omega, by omega, by go_num⟩
              · have H8 := Lib.hid h8
                have HI8 := Lib.hid (in8_of h8)
                clear h8
                (go_wp2_with fail; refine (refWaits_any _ _ l0 HW0.out).mono ?_; rw [HMB.out]; (rintro e w' ⟨rfl, hb⟩; obtain ⟨n, es, rfl⟩ := below_more hb; clear hb); go_wp2_with fail; refine (all_any _ _ Q (HWV.out.below (by (repeat (first | exact Below.refl _ _ | assumption | refine nw_more ?_ _ _ | refine nw_alloc ?_ _ | refine nw_drew ?_ | refine nw_drewN ?_ _ | refine nw_set ?_ (by first | (simp; done) | (simp; omega) | omega) _)))) HQN.out h6 (fun x hx => Nat.le_trans (HQF.out x hx) (by omega))).mono ?_; rintro e w' ⟨u2, rfl, hu2, hb2⟩; rw [HL0.out] at hu2; have HU2 := Lib.hid hu2; obtain ⟨n2, es2, rfl⟩ := below_more hb2; clear hb2 hu2; go_wp2_with fail; refine (refAges_any _ _ _ (endAges na) (allL l0) (HV.out.below (nw_trans HBC.out (by (repeat (first | exact Below.refl _ _ | assumption | refine nw_more ?_ _ _ | refine nw_alloc ?_ _ | refine nw_drew ?_ | refine nw_drewN ?_ _ | refine nw_set ?_ (by first | (simp; done) | (simp; omega) | omega) _))))) HU2.out (end_unlike na) (by rw [end_len]; omega)).mono ?_; rw [end_len, H8.out]; (rintro e w' ⟨rfl, hb⟩; obtain ⟨n, es, rfl⟩ := below_more hb; clear hb))
                go_wp2_with fail
                go_loopg [6, 7] 9 (fun g s6 s7 wx => (∃ n es, wx = more wr n es) ∧ ∃ (o : Nat) (l : List Wt), o ≤ 8 ∧ g + o = 9 ∧ s7 = .int .i64 o ∧ Hid (WaitsAt wx s6 l) ∧ Hid (mayB l = true) ∧ Hid (In8 l))
                case atStart => exact ⟨below_more (nw_trans HBC.out (by (repeat (first | exact Below.refl _ _ | assumption | refine nw_more ?_ _ _ | refine nw_alloc ?_ _ | refine nw_drew ?_ | refine nw_drewN ?_ _ | refine nw_set ?_ (by first | (simp; done) | (simp; omega) | omega) _)))), 0, l0, by omega, rfl, rfl, Lib.hid (HW0.out.below (by (repeat (first | exact Below.refl _ _ | assumption | refine nw_more ?_ _ _ | refine nw_alloc ?_ _ | refine nw_drew ?_ | refine nw_drewN ?_ _ | refine nw_set ?_ (by first | (simp; done) | (simp; omega) | omega) _)))), HMB, HI8⟩
                case round =>
                  clear HWV HQN HQF HSM HL0 HW0 HMB H8 HI8 HU2 HBC h6 hQl
                  obtain ⟨⟨n, es, rfl⟩, o, l, ho, hg, rfl, HW0, HMB, HI8⟩ := hrel
                  obtain rfl : gk = 9 - o := by omega
                  clear hg
                  by_cases ho8 : o < 8
                  rotate_left
                  · go_wp2_with fail
                    go_roundg (nl + 1 - i - 1)
                    case measure => omega
                    case rel => exact ⟨below_more (by (repeat (first | exact Below.refl _ _ | assumption | refine nw_more ?_ _ _ | refine nw_alloc ?_ _ | refine nw_drew ?_ | refine nw_drewN ?_ _ | refine nw_set ?_ (by first | (simp; done) | (simp; omega) | omega) _))), i + 1, by omega, by omega, by go_num⟩
                  · have ho9 : decide ((o : Int) < 8) = true := decide_eq_true (by omega)
                    go_wp2_with fail
                    go_loopg [6, 8] 10 (fun g s6 s8 wx => (∃ n es, wx = more wr n es) ∧ ∃ (t : Nat) (l : List Wt), t + l.length ≤ 6 ∧ g + t = 10 ∧ s8 = .int .i64 t ∧ Hid (WaitsAt wx s6 l) ∧ Hid (mayB l = true) ∧ Hid (In8 l))
                    case atStart => exact ⟨⟨n, es, rfl⟩, 0, l, by have := may_len HMB.out; omega, rfl, rfl, HW0, HMB, HI8⟩
                    case round =>
                      clear HW0 HMB HI8
                      obtain ⟨⟨n, es, rfl⟩, t, l, htl, hg, rfl, HW0, HMB, HI8⟩ := hrel
                      obtain rfl : gk = 10 - t := by omega
                      clear hg
                      have ht6 : t ≤ 6 := by omega
                      have ht8 : ¬ t = 8 := by omega
                      have ht9 : decide ((t : Int) < 9) = true := decide_eq_true (by omega)
                      cases hcl : circleL l o with
                      | nil =>
                        have HC := Lib.hid hcl
                        clear hcl
                        go_wp2_with fail
                        refine (Circle_any _ _ l _ HW0.out HMB.out).mono ?_
                        rintro e w' ⟨u, rfl, hu, hb⟩
                        rw [HC.out] at hu
                        obtain ⟨p1, c1, rfl⟩ := len_nil hu
                        obtain ⟨n1, es1, rfl⟩ := below_more hb
                        clear hb hu
                        go_wp2_with fail
                        refine (victim_none _ _ _ l (endAges na) _ (HW0.out.below (by (repeat (first | exact Below.refl _ _ | assumption | refine nw_more ?_ _ _ | refine nw_alloc ?_ _ | refine nw_drew ?_ | refine nw_drewN ?_ _ | refine nw_set ?_ (by first | (simp; done) | (simp; omega) | omega) _)))) (HV.out.below (by (repeat (first | exact Below.refl _ _ | assumption | refine nw_more ?_ _ _ | refine nw_alloc ?_ _ | refine nw_drew ?_ | refine nw_drewN ?_ _ | refine nw_set ?_ (by first | (simp; done) | (simp; omega) | omega) _)))) HMB.out (end_ages na) (end_all HI8.out) HC.out).mono ?_
                        (rintro e w' ⟨rfl, hb⟩; obtain ⟨n, es, rfl⟩ := below_more hb; clear hb)
                        go_wp2_with (first | (go_at_call 14; refine (num4_any _ _).mono ?_; rintro e w' ⟨rfl, rfl⟩))
                        go_roundg (9 - o - 1)
                        case measure => omega
                        case rel => exact ⟨below_more (by (repeat (first | exact Below.refl _ _ | assumption | refine nw_more ?_ _ _ | refine nw_alloc ?_ _ | refine nw_drew ?_ | refine nw_drewN ?_ _ | refine nw_set ?_ (by first | (simp; done) | (simp; omega) | omega) _))), o + 1, l, by omega, by omega, by go_num, Lib.hid (HW0.out.below (by (repeat (first | exact Below.refl _ _ | assumption | refine nw_more ?_ _ _ | refine nw_alloc ?_ _ | refine nw_drew ?_ | refine nw_drewN ?_ _ | refine nw_set ?_ (by first | (simp; done) | (simp; omega) | omega) _)))), HMB, HI8⟩
                      | cons c0 cr =>
                        have hone : circleL l o ≠ [] := by rw [hcl]; exact List.cons_ne_nil _ _
                        have hpos : 0 < (circleL l o).length := List.length_pos_iff.2 hone
                        obtain ⟨hOL, h2L, hVM⟩ := circle_older (b := na) HMB.out HI8.out hone
                        have hC8 := circle_in8 HI8.out o
                        have HPOS := Lib.hid hpos
                        have HOL := Lib.hid hOL
                        have HVM := Lib.hid hVM
                        have HC8 := Lib.hid hC8
                        clear hcl hone hpos hOL hVM hC8
                        go_wp2_with fail
                        refine (Circle_any _ _ l _ HW0.out HMB.out).mono ?_
                        rintro e wd ⟨u, rfl, hu, hb⟩
                        have HWD : Hid (Below wr.heap.size wr wd) := Lib.hid (nw_trans (by (repeat (first | exact Below.refl _ _ | assumption | refine nw_more ?_ _ _ | refine nw_alloc ?_ _ | refine nw_drew ?_ | refine nw_drewN ?_ _ | refine nw_set ?_ (by first | (simp; done) | (simp; omega) | omega) _))) hb)
                        have HWL := Lib.hid (HW0.out.below hb)
                        have HVD := Lib.hid (HV.out.below HWD.out)
                        have hagd : Lt ag wd.heap.size := Nat.lt_of_lt_of_le hag.out HWD.out.size
                        have HAD : Hid (∀ t, t < 8 → wd.cell? ⟨ag, ao + t, none⟩ = some (.int .i64 (eAge na t))) := Lib.hid (fun t ht => by rw [HWD.out.cell (p := ⟨ag, ao + t, none⟩) hag.out]; exact HAC.out t ht)
                        have HCI := Lib.hid hu
                        clear hb hu HW0
                        go_wp2_with fail
                        refine (victim_some _ _ _ l (endAges na) _ (HWL.out.below (by (repeat (first | exact Below.refl _ _ | assumption | refine nw_more ?_ _ _ | refine nw_alloc ?_ _ | refine nw_drew ?_ | refine nw_drewN ?_ _ | refine nw_set ?_ (by first | (simp; done) | (simp; omega) | omega) _)))) (HVD.out.below (by (repeat (first | exact Below.refl _ _ | assumption | refine nw_more ?_ _ _ | refine nw_alloc ?_ _ | refine nw_drew ?_ | refine nw_drewN ?_ _ | refine nw_set ?_ (by first | (simp; done) | (simp; omega) | omega) _)))) HMB.out (end_ages na) (end_all HI8.out) HPOS.out).mono ?_
                        (rintro e w' ⟨rfl, hb⟩; obtain ⟨n, es, rfl⟩ := below_more hb; clear hb)
                        generalize hvv : youngL (endAges na) (circleL l o) = vz at HOL HVM
                        have HCM : Hid (∀ x ∈ circleL l o, ∃ y ∈ l, y.1 = x) := Lib.hid (fun x hx => by
                          unfold circleL at hx
                          rcases (circleFrom_iff l [] x).1 hx with h1 | ⟨y, hy, e, -⟩
                          · cases h1
                          · exact ⟨y, hy, e⟩)
                        have HVL : Hid (∃ y ∈ l, y.1 = vz) := Lib.hid (HCM.out vz HVM.out)
                        clear HCM
                        generalize circleL l o = c at h2L HPOS HOL HVM HC8 HCI
                        have hv8 := HC8.out vz HVM.out
                        clear hvv
                        obtain ⟨tv, rfl⟩ : ∃ tv : Nat, vz = tv := ⟨vz.toNat, by omega⟩
                        have htv : tv < 8 := by omega
                        have hvc := HAD.out tv htv
                        have d4 : decide (idxL c (tv : Int) < 0) = false := decide_eq_false (by have := idx_has (has_iff.2 HVM.out); omega)
                        obtain ⟨cp, cc, rfl, hcl6, hct⟩ := HCI.out.at
                        have HCT := Lib.hid hct
                        clear hct
                        have d0 : ((c.length : Int) == 0) = false := by rw [beq_eq_false_iff_ne]; omega
                        have d1 : decide (0 < c.length) = true := decide_eq_true (by omega)
                        have d2 : decide ((c.length : Int) < 2) = false := decide_eq_false (by omega)
                        have d3 : ((t : Int) == 8) = false := by rw [beq_eq_false_iff_ne]; omega
                        have d5 : ¬ (c.length : Int) < 2 := by omega
                        have d6 : ¬ (idxL c (tv : Int) < 0) := by have := idx_has (has_iff.2 HVM.out); omega
                        go_wp2_with (first | (go_at_call 14; refine (num4_any _ _).mono ?_; rintro e w' ⟨rfl, rfl⟩) | (go_at_call 15; refine (in_any _ _ c _ (HCI.out.below (by (repeat (first | exact Below.refl _ _ | assumption | refine nw_more ?_ _ _ | refine nw_alloc ?_ _ | refine nw_drew ?_ | refine nw_drewN ?_ _ | refine nw_set ?_ (by first | (simp; done) | (simp; omega) | omega) _))))).mono ?_; rintro e w' ⟨rfl, rfl⟩))
                        go_loopg [13, 14] (c.length + 1) (fun g s13 s14 wx => (∃ n es, wx = more wd n es) ∧ ∃ (q : Nat) (B : Bool), q ≤ c.length ∧ g + q = c.length + 1 ∧ Hid (B = (c.take q).any (olderB (endAges na) tv)) ∧ s13 = .bool B ∧ s14 = .int .i64 q)
                        case atStart => exact ⟨⟨_, _, rfl⟩, 0, false, Nat.zero_le _, rfl, Lib.hid (by simp), rfl, rfl⟩
                        case round =>
                          obtain ⟨⟨n, es, rfl⟩, q, B, hq, hg, HQ, rfl, rfl⟩ := hrel
                          obtain rfl : gk = c.length + 1 - q := by omega
                          clear hg
                          by_cases hqc : q < c.length
                          · obtain ⟨b, off, x, rfl, hb, hc, -, hx⟩ := HCT.out q hqc
                            have hx8 := HC8.out x (List.mem_of_getElem? hx)
                            obtain ⟨tx, rfl⟩ : ∃ tx : Nat, x = tx := ⟨x.toNat, by omega⟩
                            have htx : tx < 8 := by omega
                            have hxc := HAD.out tx htx
                            have HQ1 : Hid ((c.take (q + 1)).any (olderB (endAges na) tv) = (B || decide (eAge na tx < eAge na tv))) := Lib.hid (by
                              rw [List.take_add_one, hx, List.any_append, ← HQ.out]
                              simp [olderB, ageOf_end htx, ageOf_end htv])
                            have hn : numB tx 7 = true := by simp [numB]; omega
                            have e1 : (0 : Int) ≤ (tx : Int) := by omega
                            have e2 : (tx : Int) < 8 := by omega
                            have e3 : (0 : Int) ≤ (tv : Int) := by omega
                            have e4 : (tv : Int) < 8 := by omega
                            have e5 : (0 : Int) ≤ (q : Int) := by omega
                            have e6 : (q : Int) < (c.length : Int) := by omega
                            clear hx HQ
                            go_wp2_with (first | (go_at_call 16; refine (numB_any _ _ _).mono ?_; rw [hn]; rintro e w' ⟨rfl, rfl⟩))
                            cases B
                            · by_cases hlt3 : eAge na tx < eAge na tv
                              · have HQ2 : Hid (true = (c.take (q + 1)).any (olderB (endAges na) tv)) := Lib.hid (by rw [HQ1.out, decide_eq_true hlt3]; rfl)
                                clear HQ1
                                (refine wp_region_quiet_more (by kernel_rfl) (by kernel_rfl) ?_; (repeat (first | go_big_quiet_skip | quiet_step ((first | fail)))); refine wpQuiet_nil ?_; intro _ hw'; obtain ⟨⟨nq, esq⟩, hw''⟩ := hw'; subst hw''; dsimp only)
                                go_wp2_with fail
                                go_roundg (c.length + 1 - q - 1)
                                case measure => omega
                                case rel => exact ⟨below_more (by (repeat (first | exact Below.refl _ _ | assumption | refine nw_more ?_ _ _ | refine nw_alloc ?_ _ | refine nw_drew ?_ | refine nw_drewN ?_ _ | refine nw_set ?_ (by first | (simp; done) | (simp; omega) | omega) _))), q + 1, true, by omega, by omega, HQ2, rfl, by go_num⟩
                              · have HQ2 : Hid (false = (c.take (q + 1)).any (olderB (endAges na) tv)) := Lib.hid (by rw [HQ1.out, decide_eq_false hlt3]; rfl)
                                have hd3 : decide (eAge na tx < eAge na tv) = false := decide_eq_false hlt3
                                clear HQ1
                                (refine wp_region_quiet_more (by kernel_rfl) (by kernel_rfl) ?_; (repeat (first | go_big_quiet_skip | quiet_step ((first | fail)))); refine wpQuiet_nil ?_; intro _ hw'; obtain ⟨⟨nq, esq⟩, hw''⟩ := hw'; subst hw''; dsimp only)
                                go_wp2_with fail
                                go_roundg (c.length + 1 - q - 1)
                                case measure => omega
                                case rel => exact ⟨below_more (by (repeat (first | exact Below.refl _ _ | assumption | refine nw_more ?_ _ _ | refine nw_alloc ?_ _ | refine nw_drew ?_ | refine nw_drewN ?_ _ | refine nw_set ?_ (by first | (simp; done) | (simp; omega) | omega) _))), q + 1, false, by omega, by omega, HQ2, by simp [hd3], by go_num⟩
                            · have HQ2 : Hid (true = (c.take (q + 1)).any (olderB (endAges na) tv)) := Lib.hid (by rw [HQ1.out]; rfl)
                              clear HQ1
                              (refine wp_region_quiet_more (by kernel_rfl) (by kernel_rfl) ?_; (repeat (first | go_big_quiet_skip | quiet_step ((first | fail)))); refine wpQuiet_nil ?_; intro _ hw'; obtain ⟨⟨nq, esq⟩, hw''⟩ := hw'; subst hw''; dsimp only)
                              go_wp2_with fail
                              go_roundg (c.length + 1 - q - 1)
                              case measure => omega
                              case rel => exact ⟨below_more (by (repeat (first | exact Below.refl _ _ | assumption | refine nw_more ?_ _ _ | refine nw_alloc ?_ _ | refine nw_drew ?_ | refine nw_drewN ?_ _ | refine nw_set ?_ (by first | (simp; done) | (simp; omega) | omega) _))), q + 1, true, by omega, by omega, HQ2, rfl, by go_num⟩
                          · have HB1 : Hid (B = true) := Lib.hid (by rw [HQ.out, show q = c.length by omega, List.take_length]; exact HOL.out)
                            obtain rfl := HB1.out
                            clear d0 d1 d2 d3 d4 d5 d6 hvc HB1 HQ HCI HCT HC8 HPOS HOL HVM HAD hagd h2L hcl6 HVD
                            obtain ⟨wb, HWB⟩ : ∃ wb, Hid (wb = more wd n es) := ⟨_, Lib.hid rfl⟩
                            obtain ⟨P, hP, hWv⟩ := HWL.out.below (show Below wd.heap.size wd wb by rw [HWB.out]; (repeat (first | exact Below.refl _ _ | assumption | refine nw_more ?_ _ _ | refine nw_alloc ?_ _ | refine nw_drew ?_ | refine nw_drewN ?_ _ | refine nw_set ?_ (by first | (simp; done) | (simp; omega) | omega) _)))
                            have hPl : P.length ≤ 6 := by have h1 := congrArg List.length hP; rw [List.length_map] at h1; omega
                            have HP := Lib.hid hP
                            have HFL : Hid (∀ z ∈ l, z.2.length ≤ 1000000) := Lib.hid (fun z hz => by
                              rw [← hP] at hz
                              obtain ⟨y, hy, rfl⟩ := List.mem_map.1 hz
                              exact (hWv.2.2 y hy).1)
                            obtain ⟨pp, pc, rfl, -, hPT⟩ := hWv.at
                            have HRB : Hid (Below wr.heap.size wr wb) := Lib.hid (nw_trans HWD.out (by rw [HWB.out]; (repeat (first | exact Below.refl _ _ | assumption | refine nw_more ?_ _ _ | refine nw_alloc ?_ _ | refine nw_drew ?_ | refine nw_drewN ?_ _ | refine nw_set ?_ (by first | (simp; done) | (simp; omega) | omega) _))))
                            clear HWL HWD hP hWv
                            go_wp2_with fail
                            have HPT := Lib.hid hPT
                            clear hPT
                            go_loopg [15, 16] (P.length + 1) (fun g s15 s16 wx => ∃ (k : Nat) (Q : List Wv), k ≤ P.length ∧ g + k = P.length + 1 ∧ s16 = .int .i64 k ∧ Hid (Q.map Wv.pl ++ restL tv ((P.drop k).map Wv.pl) = restL tv l) ∧ Hid (OwnW wb.heap.size wx s15 Q) ∧ Hid (ForsOwn wb.heap.size wx Q) ∧ Hid (Below wb.heap.size wb wx))
                            case atStart => exact ⟨0, [], Nat.zero_le _, rfl, rfl, Lib.hid (by rw [List.drop_zero, HP.out]; rfl), Lib.hid (OwnW.nil _ _), Lib.hid (fun x hx => by cases hx), Lib.hid (by rw [HWB.out]; exact Below.refl _ _)⟩
                            case round =>
                              obtain ⟨kk, Q, hk2, hg, rfl, HQE, HOW, HFO, HB⟩ := hrel
                              obtain rfl : gk = P.length + 1 - kk := by omega
                              clear hg
                              have hQl : Q.length ≤ 6 := by have h1 := congrArg List.length HQE.out; rw [List.length_append, List.length_map] at h1; have := restL_len (tv : Int) l; omega
                              by_cases hlt4 : kk < P.length
                              · obtain ⟨b, off, x, rfl, hb, hc, hc1, hf, hd, -⟩ := HPT.out kk hlt4
                                obtain ⟨xo, xv, xf⟩ := x
                                dsimp only at hc hc1 hf
                                obtain ⟨fp, fc, rfl⟩ := hf.slice
                                have hbL : Lt b wb.heap.size := hb
                                have HF := Lib.hid hf
                                have hcx : ∀ wy : World, Below wb.heap.size wb wy → wy.cell? ⟨b, off + kk * 2, none⟩ = some (.int .i64 xo) ∧ wy.cell? ⟨b, off + kk * 2 + 1, none⟩ = some (.slice fp xf.length fc) := fun wy hy => ⟨by rw [hy.cell (p := ⟨b, off + kk * 2, none⟩) hb]; exact hc, by rw [hy.cell (p := ⟨b, off + kk * 2 + 1, none⟩) hb]; exact hc1⟩
                                have HCX := Lib.hid hcx
                                have HD := Lib.hid hd
                                obtain ⟨hcw, hcw1⟩ := HCX.out _ HB.out
                                clear hf hd hc hc1 hb hcx
                                by_cases hov : xo = (tv : Int)
                                · subst hov
                                  have HQ2 : Hid (Q.map Wv.pl ++ restL tv ((P.drop (kk + 1)).map Wv.pl) = restL tv l) := Lib.hid (by have h := HQE.out; rw [HD.out, List.map_cons, restL_drop (v := (tv : Int)) (x := Wv.pl ⟨(tv : Int), .slice fp xf.length fc, xf⟩) rfl] at h; exact h)
                                  clear HQE HCX HD HF
                                  go_wp2_with fail
                                  go_roundg (P.length + 1 - kk - 1)
                                  case measure => omega
                                  case rel => exact ⟨kk + 1, Q, by omega, by omega, by go_num, HQ2, Lib.hid (own_below HOW.out (by (repeat (first | exact Below.refl _ _ | assumption | refine nw_more ?_ _ _ | refine nw_alloc ?_ _ | refine nw_drew ?_ | refine nw_drewN ?_ _ | refine nw_set ?_ (by first | (simp; done) | (simp; omega) | omega) _)))), Lib.hid (HFO.out.below (by (repeat (first | exact Below.refl _ _ | assumption | refine nw_more ?_ _ _ | refine nw_alloc ?_ _ | refine nw_drew ?_ | refine nw_drewN ?_ _ | refine nw_set ?_ (by first | (simp; done) | (simp; omega) | omega) _)))), Lib.hid (by have hbel := HB.out; (repeat (first | exact Below.refl _ _ | assumption | refine nw_more ?_ _ _ | refine nw_alloc ?_ _ | refine nw_drew ?_ | refine nw_drewN ?_ _ | refine nw_set ?_ (by first | (simp; done) | (simp; omega) | omega) _)))⟩
                                · have HQ2 : Hid ((Q.map Wv.pl ++ [(xo, restF tv xf)]) ++ restL tv ((P.drop (kk + 1)).map Wv.pl) = restL tv l) := Lib.hid (by have h := HQE.out; rw [HD.out, List.map_cons, restL_keep hov] at h; rw [List.append_assoc]; exact h)
                                  have HNX := Lib.hid (own_not HOW.out)
                                  have hovb : (xo == (tv : Int)) = false := beq_eq_false_iff_ne.2 hov
                                  clear HQE HD
                                  go_wp2_with fail
                                  go_loopg [18] (xf.length + 1) (fun g s18 wz => ∃ (j : Nat) (u : Value) (ys : List Int), j ≤ xf.length ∧ g + j = xf.length + 1 ∧ s18 = .int .i64 j ∧ Hid (ys ++ restF tv (xf.drop j) = restF tv xf) ∧ Hid (BoxW wb.heap.size wz wr.heap.size xo u) ∧ Hid (OwnI wb.heap.size wz u ys) ∧ Hid (Apart u Q) ∧ Hid (OwnW wb.heap.size wz u15 Q) ∧ Hid (ForsOwn wb.heap.size wz Q) ∧ Hid (Below wb.heap.size wb wz))
                                  case atStart => exact ⟨0, .slice none 0 0, [], Nat.zero_le _, rfl, rfl, Lib.hid rfl, Lib.hid (BoxW.made _ _ HB.out.size _ _), Lib.hid (OwnI.nil _ _), Lib.hid (fun x hx g hg => by cases hg), Lib.hid (OwnW.below HOW.out (by (repeat (first | exact Below.refl _ _ | assumption | refine nw_more ?_ _ _ | refine nw_alloc ?_ _ | refine nw_drew ?_ | refine nw_drewN ?_ _ | refine nw_set ?_ (by first | (simp; done) | (simp; omega) | omega) _)))), Lib.hid (HFO.out.below (by (repeat (first | exact Below.refl _ _ | assumption | refine nw_more ?_ _ _ | refine nw_alloc ?_ _ | refine nw_drew ?_ | refine nw_drewN ?_ _ | refine nw_set ?_ (by first | (simp; done) | (simp; omega) | omega) _)))), Lib.hid (by have hbel := HB.out; (repeat (first | exact Below.refl _ _ | assumption | refine nw_more ?_ _ _ | refine nw_alloc ?_ _ | refine nw_drew ?_ | refine nw_drewN ?_ _ | refine nw_set ?_ (by first | (simp; done) | (simp; omega) | omega) _)))⟩
                                  case round =>
                                    clear HOW HFO HB hcw hcw1
                                    obtain ⟨j, u, ys, hj, hg, rfl, HYS, HBX2, HU, HAP, HO, HFO, HB⟩ := hrel
                                    obtain rfl : gk = xf.length + 1 - j := by omega
                                    clear hg
                                    obtain ⟨hcw, hcw1⟩ := HCX.out _ HB.out
                                    have hbx0 := BoxW.cell0 HBX2.out
                                    have hbx1 := BoxW.cell1 HBX2.out
                                    have hXL : Lt _ wr.heap.size := HBX2.out.lt.2
                                    obtain ⟨uq, uc, rfl⟩ := HU.out.slice
                                    have hysl : ys.length ≤ 1000000 := by have h1 := congrArg List.length HYS.out; rw [List.length_append] at h1; have := restF_len (tv : Int) xf; have := HF.out.1; omega
                                    have hxfl : xf.length ≤ 1000000 := HF.out.1
                                    by_cases hlt5 : j < xf.length
                                    · obtain ⟨fp', fc', fe, -, hft⟩ := HF.out.at
                                      obtain ⟨rfl, rfl⟩ : fp = fp' ∧ fc = fc' := by simpa using fe
                                      obtain ⟨fb, foff, y, rfl, hfb, hfc, hfd, -⟩ := hft j hlt5
                                      have hfw : _ = some (Value.int .i64 y) := (HB.out.cell (p := ⟨fb, foff + j, none⟩) hfb).trans hfc
                                      have HFD := Lib.hid hfd
                                      clear hft fe hfb hfc hfd
                                      by_cases hyv : y = (tv : Int)
                                      · have HYS2 : Hid (ys ++ restF tv (xf.drop (j + 1)) = restF tv xf) := Lib.hid (by have h := HYS.out; rw [HFD.out, restF_drop hyv] at h; exact h)
                                        subst hyv
                                        clear HYS HFD
                                        go_wp2_with fail
                                        go_roundg (xf.length + 1 - j - 1)
                                        case measure => omega
                                        case rel => exact ⟨j + 1, _, ys, by omega, by omega, by go_num, HYS2, Lib.hid (BoxW.below HBX2.out (by (repeat (first | exact Below.refl _ _ | assumption | refine nw_more ?_ _ _ | refine nw_alloc ?_ _ | refine nw_drew ?_ | refine nw_drewN ?_ _ | refine nw_set ?_ (by first | (simp; done) | (simp; omega) | omega) _)))), Lib.hid (OwnI.below HU.out (by (repeat (first | exact Below.refl _ _ | assumption | refine nw_more ?_ _ _ | refine nw_alloc ?_ _ | refine nw_drew ?_ | refine nw_drewN ?_ _ | refine nw_set ?_ (by first | (simp; done) | (simp; omega) | omega) _)))), HAP, Lib.hid (OwnW.below HO.out (by (repeat (first | exact Below.refl _ _ | assumption | refine nw_more ?_ _ _ | refine nw_alloc ?_ _ | refine nw_drew ?_ | refine nw_drewN ?_ _ | refine nw_set ?_ (by first | (simp; done) | (simp; omega) | omega) _)))), Lib.hid (HFO.out.below (by (repeat (first | exact Below.refl _ _ | assumption | refine nw_more ?_ _ _ | refine nw_alloc ?_ _ | refine nw_drew ?_ | refine nw_drewN ?_ _ | refine nw_set ?_ (by first | (simp; done) | (simp; omega) | omega) _)))), Lib.hid (by have hbel := HB.out; (repeat (first | exact Below.refl _ _ | assumption | refine nw_more ?_ _ _ | refine nw_alloc ?_ _ | refine nw_drew ?_ | refine nw_drewN ?_ _ | refine nw_set ?_ (by first | (simp; done) | (simp; omega) | omega) _)))⟩
                                      · have HYS2 : Hid ((ys ++ [y]) ++ restF tv (xf.drop (j + 1)) = restF tv xf) := Lib.hid (by have h := HYS.out; rw [HFD.out, restF_keep hyv] at h; rw [List.append_assoc]; exact h)
                                        clear HYS HFD
                                        go_wp2_with fail
                                        go_region_law (refine step_append_lies _ rfl (.tmp 181) (.tmp 190) _ rfl wb.heap.size 3 j0 (.int .i64 0) 1 8 Try.underlying23 HJ.out hy0 hy1 hy2 rfl (by decide) _ ys.length (ys.map (Value.int .i64)) rfl (OwnI.below HU.out (by (repeat (first | exact Below.refl _ _ | assumption | refine nw_more ?_ _ _ | refine nw_alloc ?_ _ | refine nw_drew ?_ | refine nw_drewN ?_ _ | refine nw_set ?_ (by first | (simp; done) | (simp; omega) | omega) _)))) ⟨_, 0, none⟩ 1 1 [.int .i64 y] rfl rfl (news1 (by simp [go_sem])) (news1_one (x := .int .i64 y) rfl) (by decide) (by unfold maxLen; omega) (by omega) (by have := HB.out.size; first | (simp; done) | (simp; omega) | omega) _ rfl ?_; intro g cap w1 hown hgrow hat hlt; have HO1 := Lib.hid (OwnI.snoc hown); have HX1 := Lib.hid (BoxW.grown (BoxW.below HBX2.out (by (repeat (first | exact Below.refl _ _ | assumption | refine nw_more ?_ _ _ | refine nw_alloc ?_ _ | refine nw_drew ?_ | refine nw_drewN ?_ _ | refine nw_set ?_ (by first | (simp; done) | (simp; omega) | omega) _)))) (OwnI.below HU.out (by (repeat (first | exact Below.refl _ _ | assumption | refine nw_more ?_ _ _ | refine nw_alloc ?_ _ | refine nw_drew ?_ | refine nw_drewN ?_ _ | refine nw_set ?_ (by first | (simp; done) | (simp; omega) | omega) _)))) hgrow); have HQ1 := Lib.hid (OwnW.grownI (OwnW.below HO.out (by (repeat (first | exact Below.refl _ _ | assumption | refine nw_more ?_ _ _ | refine nw_alloc ?_ _ | refine nw_drew ?_ | refine nw_drewN ?_ _ | refine nw_set ?_ (by first | (simp; done) | (simp; omega) | omega) _)))) (OwnI.below HU.out (by (repeat (first | exact Below.refl _ _ | assumption | refine nw_more ?_ _ _ | refine nw_alloc ?_ _ | refine nw_drew ?_ | refine nw_drewN ?_ _ | refine nw_set ?_ (by first | (simp; done) | (simp; omega) | omega) _)))) hgrow); have HF1 := Lib.hid (ForsOwn.grownI (HFO.out.below (by (repeat (first | exact Below.refl _ _ | assumption | refine nw_more ?_ _ _ | refine nw_alloc ?_ _ | refine nw_drew ?_ | refine nw_drewN ?_ _ | refine nw_set ?_ (by first | (simp; done) | (simp; omega) | omega) _)))) HAP.out hgrow); have HA1 := Lib.hid (Apart.next (n := ys.length + 1) (cap := cap) HFO.out HAP.out hat (by first | (simp; done) | (simp; omega) | omega)); have HB1 := Lib.hid (below_append (w := wb) (by have hbel := HB.out; (repeat (first | exact Below.refl _ _ | assumption | refine nw_more ?_ _ _ | refine nw_alloc ?_ _ | refine nw_drew ?_ | refine nw_drewN ?_ _ | refine nw_set ?_ (by first | (simp; done) | (simp; omega) | omega) _))) (OwnI.below HU.out (by (repeat (first | exact Below.refl _ _ | assumption | refine nw_more ?_ _ _ | refine nw_alloc ?_ _ | refine nw_drew ?_ | refine nw_drewN ?_ _ | refine nw_set ?_ (by first | (simp; done) | (simp; omega) | omega) _)))) hgrow); have hx1 := BoxW.cell1 HX1.out; have hx2 := BoxW.free HX1.out 1; clear hown hgrow hat hlt)
                                        all_goals (go_wp2_with fail; go_roundg (xf.length + 1 - j - 1); (case measure => omega); (case rel => exact ⟨j + 1, _, ys ++ [y], by omega, by omega, by go_num, HYS2, Lib.hid (BoxW.set HX1.out), Lib.hid (OwnI.store HO1.out HX1.out), HA1, Lib.hid (OwnW.store HQ1.out HNX.out), Lib.hid (ForsOwn.store HF1.out HX1.out), Lib.hid (below_box HB1.out HX1.out)⟩))
                                    · have e : j = xf.length := by omega
                                      have HE : Hid (ys = restF tv xf) := Lib.hid (by have h := HYS.out; rw [e, List.drop_length] at h; simpa [restF] using h)
                                      have HI := HIW
                                      clear e HYS HAP
                                      go_wp2_with (at_builtin; refine wpList_append_own _ rfl _ _ 27 rfl wb.heap.size 41 i0 (.agg #[.int .i64 0, .slice none 0 0]) 2 32 Try.underlying27 HI.out hz0 hz1 hz2 rfl (by decide) _ _ _ rfl (own_below HO.out (by (repeat (first | exact Below.refl _ _ | assumption | refine nw_more ?_ _ _ | refine nw_alloc ?_ _ | refine nw_drew ?_ | refine nw_drewN ?_ _ | refine nw_set ?_ (by first | (simp; done) | (simp; omega) | omega) _)))) ⟨_, 0, none⟩ 1 1 [.int .i64 xo, (.slice uq ys.length uc)] rfl rfl ?c1 ?c2 ?c3 ?c4 ?c5 ?_)
                                      case c1 => exact news2 (by simp [go_sem]) (by simp [go_sem])
                                      case c2 => exact news2_one rfl rfl
                                      case c3 => unfold maxLen; omega
                                      case c4 => omega
                                      case c5 => have := HB.out.size; simp; omega
                                      intro v' w2 hown' hgrow hnil
                                      have HO' : Hid (OwnW wb.heap.size w2 v' _) := Lib.hid (own_snoc (Q := Q) (x := ⟨xo, .slice uq ys.length uc, ys⟩) hown')
                                      have HF' : Hid (ForsOwn wb.heap.size w2 _) := Lib.hid (ForsOwn.snoc (x := ⟨xo, .slice uq ys.length uc, ys⟩) (HFO.out.below (by (repeat (first | exact Below.refl _ _ | assumption | refine nw_more ?_ _ _ | refine nw_alloc ?_ _ | refine nw_drew ?_ | refine nw_drewN ?_ _ | refine nw_set ?_ (by first | (simp; done) | (simp; omega) | omega) _)))) (own_below HO.out (by (repeat (first | exact Below.refl _ _ | assumption | refine nw_more ?_ _ _ | refine nw_alloc ?_ _ | refine nw_drew ?_ | refine nw_drewN ?_ _ | refine nw_set ?_ (by first | (simp; done) | (simp; omega) | omega) _)))) (own_below HU.out (by (repeat (first | exact Below.refl _ _ | assumption | refine nw_more ?_ _ _ | refine nw_alloc ?_ _ | refine nw_drew ?_ | refine nw_drewN ?_ _ | refine nw_set ?_ (by first | (simp; done) | (simp; omega) | omega) _)))) hgrow)
                                      have HB' := Lib.hid (below_append (w := wb) (by have hbel := HB.out; (repeat (first | exact Below.refl _ _ | assumption | refine nw_more ?_ _ _ | refine nw_alloc ?_ _ | refine nw_drew ?_ | refine nw_drewN ?_ _ | refine nw_set ?_ (by first | (simp; done) | (simp; omega) | omega) _))) (own_below HO.out (by (repeat (first | exact Below.refl _ _ | assumption | refine nw_more ?_ _ _ | refine nw_alloc ?_ _ | refine nw_drew ?_ | refine nw_drewN ?_ _ | refine nw_set ?_ (by first | (simp; done) | (simp; omega) | omega) _)))) hgrow)
                                      have HQ' : Hid ((Q ++ [Wv.mk xo (.slice uq ys.length uc) ys]).map Wv.pl ++ restL tv ((P.drop (kk + 1)).map Wv.pl) = restL tv l) := Lib.hid (by rw [List.map_append, HE.out]; exact HQ2.out)
                                      clear hown' hgrow hnil HO HB HFO HU
                                      go_wp2_with fail
                                      go_roundg (P.length + 1 - kk - 1)
                                      case measure => omega
                                      case rel => exact ⟨kk + 1, _, by omega, by omega, by go_num, HQ', HO', HF', HB'⟩
                              · have e : kk = P.length := by omega
                                have HE : Hid (Q.map Wv.pl = restL tv l) := Lib.hid (by have h := HQE.out; rw [e, List.drop_length] at h; simpa [restL] using h)
                                have HWQ := Lib.hid (OwnW.at HOW.out HFO.out (by omega) (fun x hx => (restL_for HFL.out) x.pl (by rw [← HE.out]; exact List.mem_map_of_mem (f := Wv.pl) hx)))
                                have HRX := Lib.hid (nw_trans HRB.out HB.out)
                                have hl2 := restL_less HVL.out
                                clear e HQE HOW HFO HPT
                                go_wp2_with fail
                                go_roundg (10 - t - 1)
                                case measure => omega
                                case rel => exact ⟨below_more (nw_trans HRX.out (by (repeat (first | exact Below.refl _ _ | assumption | refine nw_more ?_ _ _ | refine nw_alloc ?_ _ | refine nw_drew ?_ | refine nw_drewN ?_ _ | refine nw_set ?_ (by first | (simp; done) | (simp; omega) | omega) _)))), t + 1, restL tv l, by omega, by omega, by go_num, Lib.hid (by rw [← HE.out]; exact HWQ.out.below (by (repeat (first | exact Below.refl _ _ | assumption | refine nw_more ?_ _ _ | refine nw_alloc ?_ _ | refine nw_drew ?_ | refine nw_drewN ?_ _ | refine nw_set ?_ (by first | (simp; done) | (simp; omega) | omega) _)))), Lib.hid (rest_may HMB.out), Lib.hid (rest_in8 HI8.out)⟩
end Go.Proofs.Ythkpeddgcglpcaa
