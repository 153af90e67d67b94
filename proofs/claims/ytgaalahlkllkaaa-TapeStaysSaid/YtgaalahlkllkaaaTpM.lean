/- Contracts: a crash; a sector read. No condition. -/
import Derived.Test.YtgaalahlkllkaaaTpL
namespace Go.Proofs.Ytgaalahlkllkaaa
open Go.RowKit

/-- What a crash leaves. -/
def CrashOut (w : World) (S : List ByteArray) (e : Ending) (w' : World) : Prop := ∃ p n c, e = .returned (.tuple #[.agg #[.slice p n c, .slice none 0 0], .int .i64 0]) ∧ OwnS w.heap.size w' (.slice p n c) S ∧ Below w.heap.size w w'
set_option maxRecDepth 100000 in
set_option maxHeartbeats 8000000 in
theorem crash_any (w : World) (us vs kv : Value) (S : List ByteArray) (l M : List Pt) (hok : TpOk S l) (hs : SsAt w us S) (hp : PsAt w vs l) (hM : ∀ x ∈ M, x ∈ l) (hMl : M.length ≤ l.length) (hst : ∀ X v', Below w.heap.size w X → PsAt X v' l → Calls Try.prog 23 #[v', kv] X (StayOut X M)) :
    Calls Try.prog 10 #[.agg #[us, vs], kv] w (CrashOut w (setP S M)) := by
  obtain ⟨ps, cs, rfl, -⟩ := hs.slice
  obtain ⟨pp, cp, rfl, -⟩ := hp.slice
  have HS := Lib.hid hs
  have HP := Lib.hid hp
  have HOK := Lib.hid hok
  have HM := Lib.hid (hok.sub hM hMl)
  have HST := Lib.hid hst
  clear hs hp hok hM hMl hst
  go_enter Try.func10, Try.ntmps10
  go_wp2_with fail
  refine (mayBe_ok _ _ _ S l HOK.out (HS.out.below (by (repeat (first | exact Below.refl _ _ | assumption | refine nw_more ?_ _ _ | refine nw_alloc ?_ _ | refine nw_drew ?_ | refine nw_drewN ?_ _ | refine nw_set ?_ (by first | (simp; done) | (simp; omega) | omega) _)))) (HP.out.below (by (repeat (first | exact Below.refl _ _ | assumption | refine nw_more ?_ _ _ | refine nw_alloc ?_ _ | refine nw_drew ?_ | refine nw_drewN ?_ _ | refine nw_set ?_ (by first | (simp; done) | (simp; omega) | omega) _))))).mono ?_
  (rintro e w' ⟨rfl, hb⟩; obtain ⟨n, es, rfl⟩ := below_more hb; clear hb)
  go_upto_region 3 with (fail)
  go_cut [6] (fun s8 wx => ∃ (b : Nat) (u v : Value), s8 = .pointer (some ⟨b, 0, none⟩) ∧ Hid (w.heap.size + 1 < b) ∧ Hid (Tb w.heap.size wx b u v S l) ∧ Hid (Below w.heap.size w wx) ∧ Hid (Blc wx (w.heap.size + 1) 25 #[.slice none 0 0, .slice none 0 0]))
  case first =>
    go_wp2_with fail
    refine (copied_any _ _ _ S l HOK.out.top HOK.out.many (HS.out.below (by (repeat (first | exact Below.refl _ _ | assumption | refine nw_more ?_ _ _ | refine nw_alloc ?_ _ | refine nw_drew ?_ | refine nw_drewN ?_ _ | refine nw_set ?_ (by first | (simp; done) | (simp; omega) | omega) _)))) (HP.out.below (by (repeat (first | exact Below.refl _ _ | assumption | refine nw_more ?_ _ _ | refine nw_alloc ?_ _ | refine nw_drew ?_ | refine nw_drewN ?_ _ | refine nw_set ?_ (by first | (simp; done) | (simp; omega) | omega) _))))).mono ?_
    rintro e w' ⟨u, v, rfl, ho1, ho2, hb⟩
    obtain ⟨q1, c1, rfl⟩ := ho1.form
    obtain ⟨q2, c2, rfl⟩ := ho2.slice
    obtain ⟨n2, es2, rfl⟩ := below_more hb
    clear hb
    go_wp2
    go_meet
    refine ⟨_, _, _, rfl, Lib.hid ?_, Lib.hid ⟨by (repeat (first | exact Blc.newAt _ _ _ (by simp; done) | refine Blc.alloc ?_ _ | refine Blc.mre ?_ _ _)), ?_, ?_⟩, Lib.hid (by (repeat (first | exact Below.refl _ _ | assumption | refine nw_more ?_ _ _ | refine nw_alloc ?_ _ | refine nw_drew ?_ | refine nw_drewN ?_ _ | refine nw_set ?_ (by first | (simp; done) | (simp; omega) | omega) _))), Lib.hid ?_⟩
    · omega
    · exact World.ownsRow.alloc (World.ownsRow.mono ho1 (by simp; omega)) _
    · exact World.ownsRow.alloc (World.ownsRow.mono ho2 (by simp; omega)) _
    · refine Blc.alloc (Blc.mre (Blc.mre (Blc.newAt _ _ _ ?_) _ _) _ _) _
      simp
  case rest =>
  obtain ⟨b, u, v, rfl, HBB, HT, HB, HR⟩ := hcut
  obtain ⟨q0, c0, rfl⟩ := HT.out.o.form
  obtain ⟨q1, c1, rfl⟩ := HT.out.p.slice
  obtain ⟨x0, x1, f0, f1, xl⟩ := HT.out.cells
  clear HS HP
  go_wp2_with fail
  refine (HST.out _ _ HB.out (HOK.out.ps HT.out.p)).mono ?_
  rintro e w9 ⟨u9, rfl, ho9, hb9⟩
  have hzz : w.heap.size ≤ wc.heap.size := HB.out.size
  have HT9 := Lib.hid (HT.out.below hb9)
  have HO9 : Hid (OwnP w.heap.size w9 u9 M) := Lib.hid (World.ownsRow.mono ho9 hzz)
  have HR9 := Lib.hid (HR.out.below hb9)
  have HB9 := Lib.hid (HB.out.trans (hb9.mono hzz))
  clear x0 x1 f0 f1 xl HT HB HR ho9 hb9 hzz HST
  obtain ⟨q9, c9, rfl⟩ := HO9.out.slice
  obtain ⟨x0, x1, f0, f1, xl⟩ := HT9.out.cells
  go_wp2_with fail
  have h10 := HT9.out.setL HO9.out
  have hk10 : Kt w.heap.size b w9 (w9.setCell ⟨b, 1, none⟩ (.slice q9 M.length c9)) := Kt.set (by have := HBB.out; omega) 1 _
  have hz10 := HB9.out.size
  refine (settle_any w.heap.size b _ _ _ S M HM.out h10 (by have := HBB.out; omega) (by simp; omega)).mono ?_
  rintro e wx ⟨rfl, ⟨u', hu⟩, hk⟩
  have HU := Lib.hid hu
  have hkk := hk10.trans hk
  have HR2 := Lib.hid (HR9.out.kt hkk (by have := HBB.out; omega) (by decide) (by decide))
  have HB2 := Lib.hid (HB9.out.trans (hkk.below hz10))
  clear x0 x1 f0 f1 xl h10 hk10 hz10 hu hk hkk HT9 HO9 HR9 HB9
  obtain ⟨q2, c2, rfl⟩ := HU.out.o.form
  obtain ⟨x0, x1, -, -, xl⟩ := HU.out.cells
  have r0 := HR2.out.cell 0
  have r1 := HR2.out.cell 1
  have f0 := HR2.out.free 0
  have f1 := HR2.out.free 1
  have rl : Lt (w.heap.size + 1) wx.heap.size := HR2.out.lt
  simp only [List.getElem?_toArray, List.getElem?_cons_succ, List.getElem?_cons_zero] at r0 r1
  have hn1 := not_own HU.out.o HR2.out (by decide)
  have hlen : (setP S M).length = S.length := setP_length _ _
  rw [hlen] at x0 hn1 HU
  have HF1 := Lib.hid (ownsRow_setCell_other (a := ⟨w.heap.size + 1, 1, none⟩) (ownsRow_setCell_other (a := ⟨w.heap.size + 1, 0, none⟩) HU.out.o hn1 (.slice q2 S.length c2)) hn1 (.slice none 0 0))
  have hbel := HB2.out
  obtain ⟨t0, t1, t2⟩ := HR2.out.two (.slice q2 S.length c2) (.slice none 0 0)
  clear HU HR2 HB2 hn1 hlen
  go_wp2_with fail
  refine bodyPost_ret (v := .tuple #[.agg #[.slice q2 S.length c2, .slice none 0 0], .int .i64 0]) (by simp [results, Try.results10, go_sem, t0, t1, t2]) rfl ⟨q2, S.length, c2, rfl, HF1.out, ?_⟩
  (repeat (first | exact Below.refl _ _ | assumption | refine nw_more ?_ _ _ | refine nw_alloc ?_ _ | refine nw_drew ?_ | refine nw_drewN ?_ _ | refine nw_set ?_ (by first | (simp; done) | (simp; omega) | omega) _))

set_option maxHeartbeats 4000000 in
/-- A sector, as it was put last. -/
theorem read_any (w : World) (us vs : Value) (S : List ByteArray) (l : List Pt) (k : Nat) (hok : TpOk S l) (hs : SsAt w us S) (hp : PsAt w vs l) (hk : k < S.length) :
    Calls Try.prog 13 #[.agg #[us, vs], .int .i64 k] w fun e w' => e = .returned (.tuple #[.string ((setP S l).getD k E0), .int .i64 0]) ∧ Below w.heap.size w w' := by
  have HR0 : Hid (seeP k (S.getD k E0) l = (setP S l).getD k E0) := Lib.hid (seeP_set l S k hk (fun x hx => (hok.put x hx).1))
  have hrs : ((setP S l).getD k E0).size = 32 := by
    rw [← HR0.out]
    refine seeP_size l k _ ?_ (fun x hx => (hok.put x hx).2.2)
    refine hok.txt _ ?_
    rw [List.getD, List.getElem?_eq_getElem hk]
    exact List.getElem_mem hk
  generalize (setP S l).getD k E0 = R at *
  obtain ⟨ps, cs, rfl, -, -, hsa⟩ := hs.at
  obtain ⟨pp, cp, rfl, -, -, hpa⟩ := hp.at
  obtain ⟨b, off, s, rfl, hb, hc0, hd, hxk, hsz⟩ := hsa k hk
  have HS := Lib.hid hs
  have HP := Lib.hid hp
  have HA := Lib.hid hpa
  have HOK := Lib.hid hok
  have HRS := Lib.hid hrs
  have hk2 : (k : Int) < (S.length : Int) := by omega
  have hk3 : (0 : Int) ≤ (k : Int) := by omega
  have HSEC : Hid ((decide (0 ≤ (k : Int)) && decide ((k : Int) < (S.length : Int))) = true) := Lib.hid (by simp; omega)
  have HR1 : Hid (seeP k s (l.drop 0) = R) := Lib.hid (by have := HR0.out; rw [List.getD, hxk] at this; exact this)
  have hSl := hok.top
  have hll := hok.many
  have hlb : Lt b w.heap.size := hb
  clear hs hp hsa hpa hok hrs hd hxk HR0 hb
  go_enter Try.func13, Try.ntmps13
  go_wp2_with fail
  refine (mayBe_ok _ _ _ S l HOK.out (HS.out.below (by (repeat (first | exact Below.refl _ _ | assumption | refine nw_more ?_ _ _ | refine nw_alloc ?_ _ | refine nw_drew ?_ | refine nw_drewN ?_ _ | refine nw_set ?_ (by first | (simp; done) | (simp; omega) | omega) _)))) (HP.out.below (by (repeat (first | exact Below.refl _ _ | assumption | refine nw_more ?_ _ _ | refine nw_alloc ?_ _ | refine nw_drew ?_ | refine nw_drewN ?_ _ | refine nw_set ?_ (by first | (simp; done) | (simp; omega) | omega) _))))).mono ?_
  (rintro e w' ⟨rfl, hb⟩; obtain ⟨n, es, rfl⟩ := below_more hb; clear hb)
  go_wp2_with fail
  refine (isSector_any _ _ _ _ _ _ _ _).mono ?_
  rw [HSEC.out]
  (rintro e w' ⟨rfl, hb⟩; obtain ⟨n, es, rfl⟩ := below_more hb; clear hb)
  go_wp2_with fail
  go_loopg [6, 24] (l.length + 1) (fun g s6 s24 wr => (∃ n es, wr = more w n es) ∧ ∃ (j : Nat) (s : ByteArray), j ≤ l.length ∧ g + j = l.length + 1 ∧ s6 = .string s ∧ s24 = .int .i64 j ∧ Hid (seeP k s (l.drop j) = R))
  case atStart => exact ⟨below_more (by (repeat (first | exact Below.refl _ _ | assumption | refine nw_more ?_ _ _ | refine nw_alloc ?_ _ | refine nw_drew ?_ | refine nw_drewN ?_ _ | refine nw_set ?_ (by first | (simp; done) | (simp; omega) | omega) _))), 0, _, Nat.zero_le _, rfl, rfl, rfl, HR1⟩
  case round =>
    clear HR1 hc0 HS HP HOK
    obtain ⟨⟨n, es, rfl⟩, j, s, hj, hg, rfl, rfl, HT⟩ := hrel
    obtain rfl : gk = l.length + 1 - j := by omega
    clear hg
    by_cases hlt : j < l.length
    · have hjl : (j : Int) < (l.length : Int) := by omega
      obtain ⟨pb, poff, x, rfl, hpb, ha0, ha1, hd, -, hsz2⟩ := HA.out j hlt
      obtain ⟨xi, xs⟩ := x
      dsimp only at ha0 ha1 hsz2
      by_cases hx : xi = (k : Int)
      · have HE : Hid (seeP k xs (l.drop (j + 1)) = R) := Lib.hid (by have := HT.out; rw [hd, seeP, if_pos hx] at this; exact this)
        clear hd HT HA
        go_wp2_with fail
        go_roundg (l.length + 1 - j - 1)
        case measure => omega
        case rel => exact ⟨below_more (by (repeat (first | exact Below.refl _ _ | assumption | refine nw_more ?_ _ _ | refine nw_alloc ?_ _ | refine nw_drew ?_ | refine nw_drewN ?_ _ | refine nw_set ?_ (by first | (simp; done) | (simp; omega) | omega) _))), j + 1, xs, by omega, by omega, rfl, by go_num, HE⟩
      · have HE : Hid (seeP k s (l.drop (j + 1)) = R) := Lib.hid (by have := HT.out; rw [hd, seeP, if_neg hx] at this; exact this)
        have hxne : (xi == (k : Int)) = false := beq_eq_false_iff_ne.2 hx
        clear hd HT HA
        go_wp2_with fail
        go_roundg (l.length + 1 - j - 1)
        case measure => omega
        case rel => exact ⟨below_more (by (repeat (first | exact Below.refl _ _ | assumption | refine nw_more ?_ _ _ | refine nw_alloc ?_ _ | refine nw_drew ?_ | refine nw_drewN ?_ _ | refine nw_set ?_ (by first | (simp; done) | (simp; omega) | omega) _))), j + 1, s, by omega, by omega, rfl, by go_num, HE⟩
    · have hjl : ¬ (j : Int) < (l.length : Int) := by omega
      have HE : Hid (s = R) := Lib.hid (by have := HT.out; rw [List.drop_of_length_le (by omega)] at this; exact this)
      have HSZ : Hid (s.size ≤ 140737488355328) := Lib.hid (by rw [HE.out, HRS.out]; decide)
      clear HT HA
      go_wp2_with fail
      refine (clone_any _ _ HSZ.out).mono ?_
      (rintro e w' ⟨rfl, hb⟩; obtain ⟨n, es, rfl⟩ := below_more hb; clear hb)
      go_wp2
      refine bodyPost_ret (v := .tuple #[.string s, .int .i64 0]) (by simp [results, Try.results13, go_sem]) rfl ⟨by rw [HE.out], ?_⟩
      (repeat (first | exact Below.refl _ _ | assumption | refine nw_more ?_ _ _ | refine nw_alloc ?_ _ | refine nw_drew ?_ | refine nw_drewN ?_ _ | refine nw_set ?_ (by first | (simp; done) | (simp; omega) | omega) _))
end Go.Proofs.Ytgaalahlkllkaaa
