/- Contracts: versions cloned, a chain purged, chains held against each other, what wakes. No condition. -/
import Derived.Test.YtkjejmikcgjnaaaChF
import Derived.Deep.RegionWith
namespace Go.Proofs.Ytkjejmikcgjnaaa
open Go.RowKit

set_option maxHeartbeats 1000000 in
theorem cloneV_any (w : World) (b off cap : Nat) (l : List Vr) (hl : l.length ≤ 1000000) (h : VsAt w (.slice (some ⟨b, off, none⟩) l.length cap) l) :
    Calls Try.prog 22 #[.slice (some ⟨b, off, none⟩) l.length cap] w fun e w' => ∃ u, e = .returned u ∧ OwnV w.heap.size w' u l ∧ Below w.heap.size w w' := by
  obtain ⟨i0, hi, hz0, hz1, hz2⟩ := info_parts info_version
  have HI := Lib.hid hi
  have H := Lib.hid h
  have qq : ∀ (w : World) (a : Option Addr) (n c n' c' : Nat), (binOp .eql 23 (.slice a n c) (.slice none n' c')).run Try.prog w = .ok (.bool a.isNone) w := fun w a n c n' c' => Lib.run_eql_slice_nil w _ _ a n c n' c' Try.underlying23
  clear h hi
  go_enter Try.func22, Try.ntmps22
  go_wp2_with (at_builtin; refine wpList_append_own _ rfl _ _ 23 rfl w.heap.size 37 i0 (.agg #[.int .i64 0, .string { data := #[] }, .bool false]) 3 32 Try.underlying23 HI.out hz0 hz1 hz2 rfl (by decide) _ _ _ rfl (World.ownsRow_made w #[] 0 (Nat.le_refl _) (Nat.zero_le _) rfl) ⟨b, off, none⟩ l.length cap (vCells l) rfl ?qc1 ?qc2 ?qc3 ?qc4 ?qc5 ?qc6 ?_)
  case qc1 => exact vCells_length l
  case qc2 => exact fun j u hu => vCells_mem (H.out.below (by (repeat (first | exact Below.refl _ _ | assumption | refine nw_more ?_ _ _ | refine nw_alloc ?_ _ | refine nw_drew ?_ | refine nw_drewN ?_ _ | refine nw_set ?_ (by first | (simp; done) | (simp; omega) | omega) _)))) j u hu
  case qc3 => exact vCells_one l
  case qc4 => unfold maxLen; omega
  case qc5 => omega
  case qc6 => simp
  intro v' w1 hown hgrow hnil
  go_wp2
  go_ret
  refine ⟨v', rfl, ?_, ?_⟩
  · unfold OwnV
    simpa using hown
  · exact ((Below.refl _ w).alloc (Nat.le_refl _) _).grown hgrow (by simp) (by intro k hk; simp [Value.ownBlock] at hk; omega)

theorem VsAt.same {w w' : World} {g o n cap : Nat} {l : List Vr} (h : VsAt w (.slice (some ⟨g, o, none⟩) n cap) l) (he : w'.heap[g]? = w.heap[g]?) (hlt : g < w'.heap.size) : VsAt w' (.slice (some ⟨g, o, none⟩) n cap) l := by
  obtain ⟨h0, hz, p, cap', h1, h3, h4⟩ := h
  refine ⟨h0, hz, p, cap', h1, h3, fun i hi => ?_⟩
  obtain ⟨b, off, e, h2, h5, h6, h7⟩ := h4 i hi
  have hbg : b = g := by
    rw [e] at h1
    simp only [Value.slice.injEq, Option.some.injEq, Addr.mk.injEq] at h1
    omega
  subst hbg
  have hc : ∀ j, w'.cell? ⟨b, j, none⟩ = w.cell? ⟨b, j, none⟩ := fun j => World.cell?_of_block he
  exact ⟨b, off, e, hlt, by rw [hc]; exact h5, by rw [hc]; exact h6, by rw [hc]; exact h7⟩
theorem more_late {X X' : World} {n n' g : Nat} {es : Array Obj} (hs : X'.heap.size = X.heap.size) (hg : X.heap.size ≤ g) : (more X' n' es).heap[g]? = (more X n es).heap[g]? := by
  simp only [more]
  rw [Array.getElem?_append_right (by omega), Array.getElem?_append_right hg, hs]
theorem VsAt.toOwn {B : Nat} {w : World} {u : Value} {l : List Vr} (h : OwnV B w u l) : ∃ p c, u = .slice p l.length c := by
  rcases h.2 with ⟨rfl, h0⟩ | ⟨g, c, cur, rfl, -⟩
  · exact ⟨none, 0, by rw [h0]⟩
  · exact ⟨_, _, rfl⟩

set_option maxHeartbeats 4000000 in
theorem purge_any (w : World) (k : ByteArray) (v : Value) (l : List Vr) (N : Int) (hk : k.size ≤ 140737488355328) (hl : l.length ≤ 1000000) (h : VsAt w v l) (hok : chOk k l = true) :
    Calls Try.prog 8 #[.agg #[.string k, v], .int .i64 N] w fun e w' => ∃ k' u, e = .returned (.tuple #[.agg #[.string k', u], .int .i64 0]) ∧ VsAt w' u (leftV N l) ∧ (leftV N l = [] → k' = E0 ∧ u = .slice none 0 0) ∧ (leftV N l ≠ [] → k' = k) ∧ Below w.heap.size w w' := by
  obtain ⟨p, cap, rfl, hl47, hcap, ht⟩ := h.at
  have H := Lib.hid h
  have HK := Lib.hid hok
  obtain ⟨-, h0, hlok⟩ := chOk_parts hok
  obtain ⟨b, off, y, rfl, hb, -⟩ := ht 0 h0
  have HL := Lib.hid (left_take N l)
  have hle := left_length N l
  have HT := Lib.hid (H.out.take (leftV N l).length hle)
  rw [← HL.out] at HT
  clear ht h hok
  generalize hR : leftV N l = R at *
  have HR := Lib.hid hR
  have HZ : Hid (∀ x ∈ R, x.s.size ≤ 140737488355328) := Lib.hid (fun x hx => H.out.2.1 x (by rw [HL.out] at hx; exact List.mem_of_mem_take hx))
  clear hR
  by_cases hR0 : R = []
  · subst hR0
    go_enter Try.func8, Try.ntmps8
    go_wp2_with (first | (go_at_call 20; refine (mayBe_any _ _ _ l hk (H.out.below (by (repeat (first | exact Below.refl _ _ | assumption | refine nw_more ?_ _ _ | refine nw_alloc ?_ _ | refine nw_drew ?_ | refine nw_drewN ?_ _ | refine nw_set ?_ (by first | (simp; done) | (simp; omega) | omega) _))))).mono ?_; rw [HK.out]; (rintro e w' ⟨rfl, hb⟩; obtain ⟨n, es, rfl⟩ := below_more hb; clear hb)) | (go_at_call 21; refine (left_any _ _ _ l N _ (H.out.below (by (repeat (first | exact Below.refl _ _ | assumption | refine nw_more ?_ _ _ | refine nw_alloc ?_ _ | refine nw_drew ?_ | refine nw_drewN ?_ _ | refine nw_set ?_ (by first | (simp; done) | (simp; omega) | omega) _)))) hlok h0).mono ?_; rw [HR.out]; (rintro e w' ⟨rfl, hb⟩; obtain ⟨n, es, rfl⟩ := below_more hb; clear hb)))
    refine bodyPost_ret (v := .tuple #[.agg #[.string E0, .slice none 0 0], .int .i64 0]) (by simp [results, Try.results8, go_sem, E0]) rfl ⟨E0, .slice none 0 0, rfl, VsAt.nil _ _ _, fun _ => ⟨rfl, rfl⟩, fun e => absurd rfl e, ?_⟩
    (repeat (first | exact Below.refl _ _ | assumption | refine nw_more ?_ _ _ | refine nw_alloc ?_ _ | refine nw_drew ?_ | refine nw_drewN ?_ _ | refine nw_set ?_ (by first | (simp; done) | (simp; omega) | omega) _))
  · have hpos : 0 < R.length := List.length_pos_iff.2 hR0
    have hne : ((R.length : Int) == 0) = false := beq_eq_false_iff_ne.2 (by omega)
    have hne2 : ¬ (R.length : Int) = 0 := by omega
    go_enter Try.func8, Try.ntmps8
    go_upto_region 6 with (first | (go_at_call 20; refine (mayBe_any _ _ _ l hk (H.out.below (by (repeat (first | exact Below.refl _ _ | assumption | refine nw_more ?_ _ _ | refine nw_alloc ?_ _ | refine nw_drew ?_ | refine nw_drewN ?_ _ | refine nw_set ?_ (by first | (simp; done) | (simp; omega) | omega) _))))).mono ?_; rw [HK.out]; (rintro e w' ⟨rfl, hb⟩; obtain ⟨n, es, rfl⟩ := below_more hb; clear hb)) | (go_at_call 21; refine (left_any _ _ _ l N _ (H.out.below (by (repeat (first | exact Below.refl _ _ | assumption | refine nw_more ?_ _ _ | refine nw_alloc ?_ _ | refine nw_drew ?_ | refine nw_drewN ?_ _ | refine nw_set ?_ (by first | (simp; done) | (simp; omega) | omega) _)))) hlok h0).mono ?_; rw [HR.out]; (rintro e w' ⟨rfl, hb⟩; obtain ⟨n, es, rfl⟩ := below_more hb; clear hb)))
    go_region_with (first | (go_at_call 22; refine (cloneV_any _ b off cap R (by omega) (HT.out.below (by (repeat (first | exact Below.refl _ _ | assumption | refine nw_more ?_ _ _ | refine nw_alloc ?_ _ | refine nw_drew ?_ | refine nw_drewN ?_ _ | refine nw_set ?_ (by first | (simp; done) | (simp; omega) | omega) _))))).mono ?_; rintro e w' ⟨u, rfl, hown, hb9⟩; obtain ⟨n9, es9, rfl⟩ := below_more hb9; clear hb9; obtain ⟨gg, uc, rfl, hge, hglt⟩ := World.ownsRow.form hown hpos))
    all_goals
      go_wp2
      refine bodyPost_ret (v := .tuple #[.agg #[.string k, .slice (some ⟨gg, 0, none⟩) R.length uc], .int .i64 0]) (by simp [results, Try.results8, go_sem]) rfl ⟨k, .slice (some ⟨gg, 0, none⟩) R.length uc, rfl, ?_, fun e => absurd e hR0, fun _ => rfl, ?_⟩
      · exact VsAt.same (hown.at (by omega) HZ.out) (more_late (by simp) hge) (Nat.lt_of_lt_of_eq hglt (by simp))
      · (repeat (first | exact Below.refl _ _ | assumption | refine nw_more ?_ _ _ | refine nw_alloc ?_ _ | refine nw_drew ?_ | refine nw_drewN ?_ _ | refine nw_set ?_ (by first | (simp; done) | (simp; omega) | omega) _))
end Go.Proofs.Ytkjejmikcgjnaaa
