/- Contract: wakes. No condition. -/
import Derived.Test.YtgaalahlkllkaaaTpHv
namespace Go.Proofs.Ytgaalahlkllkaaa
open Go.RowKit

theorem dsAt_one {w : World} {b c : Nat} {d : Dd} (hb : b < w.heap.size) (h0 : w.cell? ⟨b, 0, none⟩ = some (.bool d.g)) (h1 : w.cell? ⟨b, 1, none⟩ = some (.int .i64 d.p.i)) (h2 : w.cell? ⟨b, 2, none⟩ = some (.string d.p.s)) (hz : d.p.s.size ≤ 140737488355328) : DsAt w (.slice (some ⟨b, 0, none⟩) 1 c) [d] := by
  refine ⟨by simp, fun x hx => by obtain rfl := List.mem_singleton.1 hx; exact hz, some ⟨b, 0, none⟩, c, rfl, fun i hi => ?_⟩
  have : i = 0 := by simp at hi; omega
  subst this
  exact ⟨b, 0, rfl, hb, by simpa using h0, by simpa using h1, by simpa using h2⟩
theorem dsAt_two {w : World} {b c : Nat} {d d' : Dd} (hb : b < w.heap.size) (h0 : w.cell? ⟨b, 0, none⟩ = some (.bool d.g)) (h1 : w.cell? ⟨b, 1, none⟩ = some (.int .i64 d.p.i)) (h2 : w.cell? ⟨b, 2, none⟩ = some (.string d.p.s)) (h3 : w.cell? ⟨b, 3, none⟩ = some (.bool d'.g)) (h4 : w.cell? ⟨b, 4, none⟩ = some (.int .i64 d'.p.i)) (h5 : w.cell? ⟨b, 5, none⟩ = some (.string d'.p.s)) (hz : d.p.s.size ≤ 140737488355328) (hz' : d'.p.s.size ≤ 140737488355328) : DsAt w (.slice (some ⟨b, 0, none⟩) 2 c) [d, d'] := by
  refine ⟨by simp, fun x hx => ?_, some ⟨b, 0, none⟩, c, rfl, fun i hi => ?_⟩
  · simp only [List.mem_cons, List.not_mem_nil, or_false] at hx
    rcases hx with rfl | rfl
    · exact hz
    · exact hz'
  · have : i = 0 ∨ i = 1 := by simp at hi; omega
    rcases this with rfl | rfl
    · exact ⟨b, 0, rfl, hb, by simpa using h0, by simpa using h1, by simpa using h2⟩
    · exact ⟨b, 0, rfl, hb, by simpa using h3, by simpa using h4, by simpa using h5⟩
theorem read_at (w : World) (us vs : Value) (S : List ByteArray) (l : List Pt) (k : Nat) (K : Int) (hK : K = k) (s : ByteArray) (hr : (setP S l).getD k E0 = s) (hok : TpOk S l) (hs : SsAt w us S) (hp : PsAt w vs l) (hk : k < S.length) :
    Calls Try.prog 13 #[.agg #[us, vs], .int .i64 K] w fun e w' => e = .returned (.tuple #[.string s, .int .i64 0]) ∧ Below w.heap.size w w' := by
  subst hK hr
  exact read_any w us vs S l k hok hs hp hk
set_option maxRecDepth 100000 in
set_option maxHeartbeats 4000000 in
theorem wakes18_any (w : World) :
    Calls Try.prog 14 #[] w fun e w' => e = .returned (.bool true) ∧ Below w.heap.size w w' := by
  go_enter Try.func14, Try.ntmps14
  go_wp2_with fail
  refine (tNew_any 3 _ (by decide) (by decide)).mono ?_
  rintro e w' ⟨u, rfl, ho, hb⟩
  obtain ⟨q, c, e0⟩ := ho.form
  rw [emptyS_length] at e0
  subst e0
  obtain ⟨n, es, rfl⟩ := below_more hb
  have HO := Lib.hid ho
  clear hb ho
  go_wp2_with (first | (go_at_call 16; refine (zeros_any 31 _ (by decide)).mono ?_; rintro e w' ⟨rfl, hb⟩; obtain ⟨n1, es1, rfl⟩ := below_more hb; clear hb))
  have hs32 : (({ data := #[120] } : ByteArray) ++ zeroT 31).size = 32 := by rw [ByteArray.size_append, zeroT_size]; rfl
  generalize ({ data := #[120] } : ByteArray) ++ zeroT 31 = s at *
  have HSZ := Lib.hid hs32
  clear hs32
  have hpe : playE (emptyS 3) [] [⟨false, ⟨1, s⟩⟩, ⟨true, ⟨0, E0⟩⟩] = 0 := by
    have h1 : stepE (emptyS 3) [] ⟨false, ⟨1, s⟩⟩ = 0 := by
      have : faultE (emptyS 3).length 1 s = 0 := faultE_ok (by decide) (by rw [emptyS_length]; decide) HSZ.out
      unfold stepE
      simp [this]
    rw [playE, if_pos h1, playE, if_pos (by rfl)]
    rfl
  have hps : playS (emptyS 3) [] [⟨false, ⟨1, s⟩⟩, ⟨true, ⟨0, E0⟩⟩] = (emptyS 3).set 1 s := rfl
  have hok := tpOk_play _ _ _ (emptyS_ok (n := 3) (by decide) (by decide)) hpe
  have HOK := Lib.hid hok
  have HPE := Lib.hid hpe
  have HPS := Lib.hid hps
  clear hpe hps hok
  have HSS := Lib.hid ((emptyS_ok (n := 3) (by decide) (by decide)).ss HO.out)
  refine (Play_any _ _ _ _ (emptyS 3) [] [⟨false, ⟨1, s⟩⟩, ⟨true, ⟨0, E0⟩⟩] (emptyS_ok (by decide) (by decide)) (HSS.out.below (by (repeat (first | exact Below.refl _ _ | assumption | refine nw_more ?_ _ _ | refine nw_alloc ?_ _ | refine nw_drew ?_ | refine nw_drewN ?_ _ | refine nw_set ?_ (by first | (simp; done) | (simp; omega) | omega) _)))) (PsAt.nil _ _ _) (dsAt_two (by simp) (by simp [go_sem]) (by simp [go_sem]) (by simp [go_sem]) (by simp [go_sem]) (by simp [go_sem]) (by simp [go_sem, E0]) (by rw [HSZ.out]; decide) (by decide))).mono ?_
  rintro e w' ⟨p1, m1, c1, q1, k1, d1, rfl, hpl, hb⟩
  rw [HPE.out]
  obtain ⟨ho1, ho2⟩ := hpl HPE.out
  obtain ⟨n2, es2, rfl⟩ := below_more hb
  have HO1 := Lib.hid ho1
  have HO2 := Lib.hid ho2
  clear hb ho1 ho2 hpl HSS HO
  have HRD : Hid ((setP (playS (emptyS 3) [] [⟨false, ⟨1, s⟩⟩, ⟨true, ⟨0, E0⟩⟩]) (playL [] [⟨false, ⟨1, s⟩⟩, ⟨true, ⟨0, E0⟩⟩])).getD 1 E0 = s) := Lib.hid rfl
  have HLN : Hid (1 < (playS (emptyS 3) [] [⟨false, ⟨1, s⟩⟩, ⟨true, ⟨0, E0⟩⟩]).length) := Lib.hid (by rw [HPS.out, List.length_set, emptyS_length]; decide)
  go_wp2_with (first | (go_at_call 13; refine (read_at _ _ _ _ _ 1 1 rfl s HRD.out HOK.out (HOK.out.ss (own_swap HO1.out (by simp) (Nat.zero_le _))) (HOK.out.ps (own_swap HO2.out (by simp) (Nat.zero_le _))) HLN.out).mono ?_; rintro e w' ⟨rfl, hb⟩; obtain ⟨n3, es3, rfl⟩ := below_more hb; clear hb) | (go_at_call 8; refine (num18_any _ _).mono ?_; rintro e w' ⟨rfl, rfl⟩))
  go_ret
  exact ⟨rfl, by (repeat (first | exact Below.refl _ _ | assumption | refine nw_more ?_ _ _ | refine nw_alloc ?_ _ | refine nw_drew ?_ | refine nw_drewN ?_ _ | refine nw_set ?_ (by first | (simp; done) | (simp; omega) | omega) _))⟩
end Go.Proofs.Ytgaalahlkllkaaa
