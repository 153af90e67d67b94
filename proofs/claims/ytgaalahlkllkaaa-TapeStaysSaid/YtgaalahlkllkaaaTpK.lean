/- Contract: steps on a tape. No condition. -/
import Derived.Test.YtgaalahlkllkaaaTpJ
namespace Go.Proofs.Ytgaalahlkllkaaa
open Go.RowKit

/-- The slice v holds the steps D, three cells each, in a block below the world's end. -/
def DsAt (w : World) (v : Value) (D : List Dd) : Prop :=
  D.length ≤ 140737488355328 ∧ (∀ x ∈ D, x.p.s.size ≤ 140737488355328) ∧ ∃ p cap, v = .slice p D.length cap ∧ ∀ i, i < D.length → ∃ b off, p = some ⟨b, off, none⟩ ∧ b < w.heap.size ∧ w.cell? ⟨b, off + i * 3, none⟩ = some (.bool (D.getD i default).g) ∧ w.cell? ⟨b, off + i * 3 + 1, none⟩ = some (.int .i64 (D.getD i default).p.i) ∧ w.cell? ⟨b, off + i * 3 + 2, none⟩ = some (.string (D.getD i default).p.s)
theorem DsAt.below {w w' : World} {v : Value} {D : List Dd} (h : DsAt w v D) (hb : Below w.heap.size w w') : DsAt w' v D := by
  obtain ⟨h0, hz, p, cap, h1, h4⟩ := h
  refine ⟨h0, hz, p, cap, h1, fun i hi => ?_⟩
  obtain ⟨b, off, e, h2, h5, h6, h7⟩ := h4 i hi
  exact ⟨b, off, e, Nat.lt_of_lt_of_le h2 hb.size, by rw [hb.cell (p := ⟨b, off + i * 3, none⟩) h2]; exact h5, by rw [hb.cell (p := ⟨b, off + i * 3 + 1, none⟩) h2]; exact h6, by rw [hb.cell (p := ⟨b, off + i * 3 + 2, none⟩) h2]; exact h7⟩
theorem drop_ds (l : List Dd) (k : Nat) (h : k < l.length) : l.drop k = l.getD k default :: l.drop (k + 1) := by
  rw [List.drop_eq_getElem_cons h]; simp [List.getD, h]
theorem DsAt.at {w : World} {v : Value} {D : List Dd} (h : DsAt w v D) : ∃ p cap, v = .slice p D.length cap ∧ D.length ≤ 140737488355328 ∧ ∀ k, k < D.length → ∃ b off x, p = some ⟨b, off, none⟩ ∧ Lt b w.heap.size ∧ w.cell? ⟨b, off + k * 3, none⟩ = some (.bool x.g) ∧ w.cell? ⟨b, off + k * 3 + 1, none⟩ = some (.int .i64 x.p.i) ∧ w.cell? ⟨b, off + k * 3 + 2, none⟩ = some (.string x.p.s) ∧ D.drop k = x :: D.drop (k + 1) ∧ D[k]? = some x ∧ x.p.s.size ≤ 140737488355328 := by
  obtain ⟨h0, hz, p, cap, h1, h4⟩ := h
  refine ⟨p, cap, h1, h0, fun k hk => ?_⟩
  obtain ⟨b, off, e, h2, h5, h6, h7⟩ := h4 k hk
  have hx : D[k]? = some (D.getD k default) := by simp [List.getD, hk]
  exact ⟨b, off, _, e, h2, h5, h6, h7, drop_ds D k hk, hx, hz _ (List.mem_of_getElem? hx)⟩
/-- What steps leave. -/
def PlayOut (w : World) (S : List ByteArray) (l : List Pt) (D : List Dd) (e : Ending) (w' : World) : Prop := ∃ p n c q m d, e = .returned (.tuple #[.agg #[.slice p n c, .slice q m d], .int .i64 (playE S l D)]) ∧ (playE S l D = 0 → OwnS w.heap.size w' (.slice p n c) (playS S l D) ∧ OwnP w.heap.size w' (.slice q m d) (playL l D)) ∧ Below w.heap.size w w'
set_option maxRecDepth 100000 in
set_option maxHeartbeats 8000000 in
theorem Play_any (w : World) (us vs dv : Value) (S : List ByteArray) (l : List Pt) (D : List Dd) (hok : TpOk S l) (hs : SsAt w us S) (hp : PsAt w vs l) (hD : DsAt w dv D) :
    Calls Try.prog 7 #[.agg #[us, vs], .int .i64 (-1), dv] w (PlayOut w S l D) := by
  obtain ⟨ps, cs, rfl, -⟩ := hs.slice
  obtain ⟨pp, cp, rfl, -⟩ := hp.slice
  obtain ⟨pd, cd, rfl, hDl, hDa⟩ := hD.at
  have HS := Lib.hid hs
  have HP := Lib.hid hp
  have HD := Lib.hid hDa
  have HOK := Lib.hid hok
  clear hs hp hD hDa hok
  go_enter Try.func7, Try.ntmps7
  go_wp2_with fail
  refine (mayBe_ok _ _ _ S l HOK.out (HS.out.below (by (repeat (first | exact Below.refl _ _ | assumption | refine nw_more ?_ _ _ | refine nw_alloc ?_ _ | refine nw_drew ?_ | refine nw_drewN ?_ _ | refine nw_set ?_ (by first | (simp; done) | (simp; omega) | omega) _)))) (HP.out.below (by (repeat (first | exact Below.refl _ _ | assumption | refine nw_more ?_ _ _ | refine nw_alloc ?_ _ | refine nw_drew ?_ | refine nw_drewN ?_ _ | refine nw_set ?_ (by first | (simp; done) | (simp; omega) | omega) _))))).mono ?_
  (rintro e w' ⟨rfl, hb⟩; obtain ⟨n, es, rfl⟩ := below_more hb; clear hb)
  go_upto_region 3 with (fail)
  go_cut [8] (fun s8 wx => ∃ (b : Nat) (u v : Value), s8 = .pointer (some ⟨b, 0, none⟩) ∧ Hid (w.heap.size + 1 < b) ∧ Hid (Tb w.heap.size wx b u v S l) ∧ Hid (Below w.heap.size w wx) ∧ Hid (Blc wx (w.heap.size + 1) 25 #[.slice none 0 0, .slice none 0 0]))
  case first =>
    go_wp2_with fail
    refine (copied_any _ _ _ S l HOK.out.top HOK.out.many (HS.out.below (by (repeat (first | exact Below.refl _ _ | assumption | refine nw_more ?_ _ _ | refine nw_alloc ?_ _ | refine nw_drew ?_ | refine nw_drewN ?_ _ | refine nw_set ?_ (by first | (simp; done) | (simp; omega) | omega) _)))) (HP.out.below (by (repeat (first | exact Below.refl _ _ | assumption | refine nw_more ?_ _ _ | refine nw_alloc ?_ _ | refine nw_drew ?_ | refine nw_drewN ?_ _ | refine nw_set ?_ (by first | (simp; done) | (simp; omega) | omega) _))))).mono ?_
    rintro e w' ⟨u, v, rfl, ho1, ho2, hb⟩
    obtain ⟨q1, c1, rfl⟩ := ho1.form
    obtain ⟨q2, c2, rfl⟩ := ho2.slice
    obtain ⟨n2, es2, rfl⟩ := below_more hb
    clear hb
    go_wp2
    go_meet
    refine ⟨_, _, _, rfl, Lib.hid ?_, Lib.hid ⟨by (repeat (first | exact Blc.newAt _ _ _ (by simp; done) | refine Blc.alloc ?_ _ | refine Blc.mre ?_ _ _)), ?_, ?_⟩, Lib.hid (by (repeat (first | exact Below.refl _ _ | assumption | refine nw_more ?_ _ _ | refine nw_alloc ?_ _ | refine nw_drew ?_ | refine nw_drewN ?_ _ | refine nw_set ?_ (by first | (simp; done) | (simp; omega) | omega) _))), Lib.hid ?_⟩
    · omega
    · exact World.ownsRow.alloc (World.ownsRow.mono ho1 (by simp; omega)) _
    · exact World.ownsRow.alloc (World.ownsRow.mono ho2 (by simp; omega)) _
    · refine Blc.alloc (Blc.mre (Blc.mre (Blc.newAt _ _ _ ?_) _ _) _ _) _
      simp
  case rest =>
  obtain ⟨b, u, v, rfl, HBB, HT, HB, HR⟩ := hcut
  have HL : Hid (Lt (w.heap.size + 1) wc.heap.size) := Lib.hid HR.out.lt
  go_wp2_with fail
  refine (first_all _ _).mono ?_
  rintro e w' ⟨rfl, rfl⟩
  go_wp2_with fail
  go_loopg [26] (D.length + 1) (fun g s26 wr => ∃ (k : Nat) (S' : List ByteArray) (l' : List Pt) (u v : Value), k ≤ D.length ∧ g + k = D.length + 1 ∧ s26 = .int .i64 k ∧ Hid (TpOk S' l') ∧ Hid (playE S l D = playE S' l' (D.drop k) ∧ playS S l D = playS S' l' (D.drop k) ∧ playL l D = playL l' (D.drop k)) ∧ Hid (Tb w.heap.size wr b u v S' l') ∧ Hid (Below w.heap.size w wr) ∧ Hid (Blc wr (w.heap.size + 1) 25 #[.slice none 0 0, .slice none 0 0]))
  case atStart => exact ⟨0, S, l, u, v, Nat.zero_le _, rfl, rfl, HOK, Lib.hid ⟨rfl, rfl, rfl⟩, HT, HB, HR⟩
  case round =>
    clear HT HB HR HOK HS HP HL
    obtain ⟨k, S', l', u, v, hk, hg, rfl, HOK, HE, HT, HB, HR⟩ := hrel
    obtain rfl : gk = D.length + 1 - k := by omega
    clear hg
    have hzz : w.heap.size ≤ wr.heap.size := HB.out.size
    have r0 := HR.out.cell 0
    have r1 := HR.out.cell 1
    have f0 := HR.out.free 0
    have f1 := HR.out.free 1
    have rl : Lt (w.heap.size + 1) wr.heap.size := HR.out.lt
    simp only [List.getElem?_toArray, List.getElem?_cons_succ, List.getElem?_cons_zero] at r0 r1
    by_cases hlt : k < D.length
    · have hkn : (k : Int) < (D.length : Int) := by omega
      obtain ⟨db, off, x, rfl, hb, a0, a1, a2, hd, -, hsz⟩ := HD.out k hlt
      obtain ⟨xg, xi, xs⟩ := x
      dsimp only at a0 a1 a2 hsz
      have hc0 : wr.cell? ⟨db, off + k * 3, none⟩ = some (.bool xg) := (HB.out.cell (p := ⟨db, off + k * 3, none⟩) hb.out).trans a0
      have hc1 : wr.cell? ⟨db, off + k * 3 + 1, none⟩ = some (.int .i64 xi) := (HB.out.cell (p := ⟨db, off + k * 3 + 1, none⟩) hb.out).trans a1
      have hc2 : wr.cell? ⟨db, off + k * 3 + 2, none⟩ = some (.string xs) := (HB.out.cell (p := ⟨db, off + k * 3 + 2, none⟩) hb.out).trans a2
      have hb1 : Lt db wr.heap.size := Nat.lt_of_lt_of_le hb.out hzz
      have HDK := Lib.hid hd
      clear a0 a1 a2 hb hd
      go_wp2_with fail
      refine (play_any w.heap.size b _ u v S' l' ⟨xg, xi, xs⟩ HOK.out (HT.out.below (by (repeat (first | exact Below.refl _ _ | assumption | refine nw_more ?_ _ _ | refine nw_alloc ?_ _ | refine nw_drew ?_ | refine nw_drewN ?_ _ | refine nw_set ?_ (by first | (simp; done) | (simp; omega) | omega) _)))) (by have := HBB.out; omega) (by simp; omega) hsz).mono ?_
      rintro e w9 ⟨rfl, hok9, hk9⟩
      have HK9 := Lib.hid (Kt.trans (Kt.of (by (repeat (first | exact Below.refl _ _ | assumption | refine nw_more ?_ _ _ | refine nw_alloc ?_ _ | refine nw_drew ?_ | refine nw_drewN ?_ _ | refine nw_set ?_ (by first | (simp; done) | (simp; omega) | omega) _)) : Below wr.heap.size wr (wr.alloc (Obj.cells #[.bool xg, .int .i64 xi, .string xs] 42)))) hk9)
      have HO9 := Lib.hid hok9
      clear hok9 hk9
      have hr9 := HR.out.kt HK9.out (by have := HBB.out; omega) (by decide) (by decide)
      have HB9 := Lib.hid (HB.out.trans (HK9.out.below hzz))
      clear r0 r1 f0 f1 rl hc0 hc1 hc2 hb1 HR
      generalize hse : stepE S' l' ⟨xg, xi, xs⟩ = se at *
      have HSE := Lib.hid hse
      clear hse
      have HR9 := Lib.hid hr9
      have r0 := hr9.cell 0
      have r1 := hr9.cell 1
      have f0 := hr9.free 0
      have f1 := hr9.free 1
      have rl : Lt (w.heap.size + 1) w9.heap.size := hr9.lt
      simp only [List.getElem?_toArray, List.getElem?_cons_succ, List.getElem?_cons_zero] at r0 r1
      clear hr9
      by_cases h0 : se = 0
      · subst h0
        obtain ⟨u9, v9, hu9⟩ := HO9.out rfl
        have HT9 := Lib.hid hu9
        have HE9 : Hid (playE S l D = playE (stepS S' l' ⟨xg, xi, xs⟩) (stepL l' ⟨xg, xi, xs⟩) (D.drop (k + 1)) ∧ playS S l D = playS (stepS S' l' ⟨xg, xi, xs⟩) (stepL l' ⟨xg, xi, xs⟩) (D.drop (k + 1)) ∧ playL l D = playL (stepL l' ⟨xg, xi, xs⟩) (D.drop (k + 1))) := Lib.hid (by
          obtain ⟨e1, e2, e3⟩ := HE.out
          rw [HDK.out] at e1 e2 e3
          rw [playE, if_pos HSE.out] at e1
          exact ⟨e1, e2, e3⟩)
        have HOK9 := Lib.hid (HOK.out.step HSE.out)
        clear hu9 HO9 HT HOK HE HDK HK9
        go_wp2_with fail
        go_roundg (D.length + 1 - k - 1)
        case measure => omega
        case rel => exact ⟨k + 1, _, _, u9, v9, by omega, by omega, by go_num, HOK9, HE9, HT9, HB9, HR9⟩
      · have hne : (se == 0) = false := beq_eq_false_iff_ne.2 h0
        have HEE : Hid (playE S l D = se) := Lib.hid (by
          obtain ⟨e1, -, -⟩ := HE.out
          rw [e1, HDK.out, playE, if_neg (by rw [HSE.out]; exact h0), HSE.out])
        obtain ⟨t0, t1, t2⟩ := HR9.out.two (.slice none 0 0) (.slice none 0 0)
        clear HO9 HT HOK HE HDK HK9
        go_wp2_with fail
        refine bodyPost_ret (v := .tuple #[.agg #[.slice none 0 0, .slice none 0 0], .int .i64 se]) (by simp [results, Try.results7, go_sem, t0, t1, t2]) rfl ⟨none, 0, 0, none, 0, 0, by rw [HEE.out], fun he => absurd (HEE.out.symm.trans he) h0, ?_⟩
        have hb9 := HB9.out
        (repeat (first | exact Below.refl _ _ | assumption | refine nw_more ?_ _ _ | refine nw_alloc ?_ _ | refine nw_drew ?_ | refine nw_drewN ?_ _ | refine nw_set ?_ (by first | (simp; done) | (simp; omega) | omega) _))
    · have hkn : ¬ (k : Int) < (D.length : Int) := by omega
      obtain ⟨e1, e2, e3⟩ := HE.out
      rw [List.drop_of_length_le (by omega)] at e1 e2 e3
      have HEE : Hid (playE S l D = 0 ∧ playS S l D = S' ∧ playL l D = l') := Lib.hid ⟨e1, e2, e3⟩
      obtain ⟨q0, c0, rfl⟩ := HT.out.o.form
      obtain ⟨q1, c1, rfl⟩ := HT.out.p.slice
      obtain ⟨x0, x1, -, -, xl⟩ := HT.out.cells
      have hn1 := not_own HT.out.o HR.out (by decide)
      have hn2 := not_own HT.out.p HR.out (by decide)
      have HF1 := Lib.hid (ownsRow_setCell_other (a := ⟨w.heap.size + 1, 1, none⟩) (ownsRow_setCell_other (a := ⟨w.heap.size + 1, 0, none⟩) HT.out.o hn1 (.slice q0 S'.length c0)) hn1 (.slice q1 l'.length c1))
      have HF2 := Lib.hid (ownsRow_setCell_other (a := ⟨w.heap.size + 1, 1, none⟩) (ownsRow_setCell_other (a := ⟨w.heap.size + 1, 0, none⟩) HT.out.p hn2 (.slice q0 S'.length c0)) hn2 (.slice q1 l'.length c1))
      have hbel := HB.out
      obtain ⟨t0, t1, t2⟩ := HR.out.two (.slice q0 S'.length c0) (.slice q1 l'.length c1)
      clear e1 e2 e3 HE HT HR HB HD HOK hn1 hn2
      go_wp2_with fail
      refine bodyPost_ret (v := .tuple #[.agg #[.slice q0 S'.length c0, .slice q1 l'.length c1], .int .i64 0]) (by simp [results, Try.results7, go_sem, t0, t1, t2]) rfl ⟨q0, S'.length, c0, q1, l'.length, c1, by rw [HEE.out.1], fun _ => ⟨by rw [HEE.out.2.1]; exact HF1.out, by rw [HEE.out.2.2]; exact HF2.out⟩, ?_⟩
      (repeat (first | exact Below.refl _ _ | assumption | refine nw_more ?_ _ _ | refine nw_alloc ?_ _ | refine nw_drew ?_ | refine nw_drewN ?_ _ | refine nw_set ?_ (by first | (simp; done) | (simp; omega) | omega) _))
end Go.Proofs.Ytgaalahlkllkaaa
