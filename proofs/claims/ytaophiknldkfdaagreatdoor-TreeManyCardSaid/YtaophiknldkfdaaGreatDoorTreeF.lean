/- Contract of package tree: which nodes may be. -/
import Derived.Test.YtaophiknldkfdaaGreatDoorTreeE
import Derived.Test.YtaophiknldkfdaaGreatDoorWPlain
import Derived.OwnWalk
import Derived.Deep.RegionHeld3
import Derived.Deep.RegionWith
namespace Go.Proofs.YtaophiknldkfdaaGreatDoor
open Go.RowKit

theorem info_bool : (Tryz.prog.info? 4).map (fun i => (i.zero, i.size, i.bytes)) = some (some (.bool false), 1, 1) := by kernel_rfl
theorem keyAll_any (w : World) :
    Calls Tryz.prog 61 #[] w fun e w' => e = .returned (.agg #[.string { data := #[] }, .string { data := #[] }, .bool true]) ∧ Below w.heap.size w w' := by
  go_enter Tryz.func61, Tryz.ntmps61
  go_wp2
  exact bodyPost_ret (v := .agg #[.string { data := #[] }, .string { data := #[] }, .bool true]) (by simp [results, Tryz.results61, go_sem]) rfl ⟨rfl, by (repeat (first | exact Below.refl _ _ | assumption | refine nw_more ?_ _ _ | refine nw_alloc ?_ _ | refine nw_drew ?_ | refine nw_drewN ?_ _ | refine nw_set ?_ (by first | (simp; done) | (simp; omega) | omega) _))⟩

/-- A row of Bools in a block. -/
def boolArr (r : List Bool) : Array Value := (r.map Value.bool).toArray
theorem boolArr_at {r : List Bool} {k : Nat} (h : k < r.length) : (boolArr r)[k]? = some (.bool (r.getD k true)) := by
  simp [boolArr, List.getD, h]
theorem boolArr_set (r : List Bool) (k : Nat) (b : Bool) : (boolArr r).setIfInBounds k (.bool b) = boolArr (r.set k b) := by
  simp [boolArr, List.map_set]
theorem blc_of_own {w : World} {B g n : Nat} {e : TypeId} {xs : List Value} (h : w.ownsRow B e 1 (.slice (some ⟨g, 0, none⟩) n n) n xs) : Blc w g e xs.toArray := by
  rcases h.2 with ⟨h', -⟩ | ⟨g', cap', cur, h', hb, hg, -, -, hs, ht⟩
  · cases h'
  · simp only [Value.slice.injEq, Option.some.injEq, Addr.mk.injEq, and_true, true_and] at h'
    obtain ⟨rfl, rfl⟩ := h'
    have : cur.toList = xs := by rw [← ht, List.take_of_length_le (by rw [Array.length_toList, hs]; exact Nat.le_refl _)]
    unfold Blc
    rw [hg, ← this]

theorem at_nds {α : Type} {P : List (Nv α)} {r : Int} {F : List Int} {i : Int} {n : Nd α} (h : (Tr.mk (ndsOf P) r F).at i = some n) : ∃ (k : Nat) (x : Nv α), i = k ∧ P[k]? = some x ∧ x.n = n := by
  unfold Tr.at at h
  split at h
  · rename_i h0
    unfold ndsOf at h
    rw [List.getElem?_map] at h
    cases hx : P[i.toNat]? with
    | none => rw [hx] at h; cases h
    | some x => rw [hx] at h; exact ⟨i.toNat, x, by omega, hx, Option.some.inj h⟩
  · cases h

set_option maxRecDepth 100000 in
set_option maxHeartbeats 2000000 in
theorem nodesMayBe_any {α : Type} (K : Ks α) (B : Nat) (w : World) (v : Value) (r : Int) (P : List (Nv α)) (F : List Int) (fp : Option Addr) (fc : Nat) (h : NodesIn K B w v P) (h200 : P.length ≤ 200) (hF : F.length ≤ 1000000) :
    Calls Tryz.prog 39 #[.agg #[v, .int .i64 r, .slice fp F.length fc]] w fun e w' => e = .returned (.bool (levelsB K (Tr.mk (ndsOf P) r F) (P.length + 1) (List.replicate P.length false) 0 [(r, (none, none))])) ∧ Below w.heap.size w w' := by
  have HN := Lib.hid h
  obtain ⟨np, nc, rfl, -⟩ := h.slice
  obtain ⟨i0, hi, hz0, hz1, hz2⟩ := info_parts info_bool
  have HI := Lib.hid hi
  clear h hi
  generalize ht : Tr.mk (ndsOf P) r F = t
  have HT0 := Lib.hid ht
  have HTN : Hid (t.nodes.length = P.length) := Lib.hid (by rw [← ht]; exact nds_len P)
  have HTF : Hid (t.free.length = F.length) := Lib.hid (by rw [← ht])
  have HTR : Hid (t.root = r) := Lib.hid (by rw [← ht])
  clear ht
  generalize hres : levelsB K t (P.length + 1) (List.replicate P.length false) 0 [(r, (none, none))] = res
  have HRES := Lib.hid hres
  clear hres
  go_enter Tryz.func39, Tryz.ntmps39
  go_wp2_with (at_make; refine wpList_make_full _ rfl _ _ 73 rfl (w.heap.size + 1) 4 i0 (.bool false) 1 Tryz.underlying73 HI.out hz0 hz1 .i64 .i64 _ _ P.length rfl rfl rfl rfl (by rw [hz2]; omega) (by unfold maxLen; omega) (by simp) ?_; intro w1 hown1 hgrow1)
  have HB1 : Hid (Below w.heap.size w w1) := Lib.hid (Below.grown (by (repeat (first | exact Below.refl _ _ | assumption | refine nw_more ?_ _ _ | refine nw_alloc ?_ _ | refine nw_drew ?_ | refine nw_drewN ?_ _ | refine nw_set ?_ (by first | (simp; done) | (simp; omega) | omega) _))) hgrow1 (by simp) (fun k hk => by cases hk))
  have HX1 : Hid (Blc w1 w.heap.size 25 #[.slice np P.length nc, .int .i64 r, .slice fp F.length fc]) := Lib.hid ((Blc.new w _ _).grown hgrow1 (by simp))
  have HR1 : Hid (Blc w1 (w.heap.size + 1) 4 (boolArr (List.replicate P.length false))) := Lib.hid (by
    have h := blc_of_own hown1
    have e : (w.alloc (Obj.cells #[.slice np P.length nc, .int .i64 r, .slice fp F.length fc] 25)).heap.size = w.heap.size + 1 := by simp
    rw [e] at h
    have e2 : (madeCells (Value.bool false).cells (P.length * 1)).toList = (List.replicate P.length false).map Value.bool := by
      rw [Nat.mul_one, List.map_replicate]; exact toList_madeCells_one _ _
    rw [e2] at h
    exact h)
  clear hown1 hgrow1
  have hx1 := HX1.out.cell 1
  simp only [List.getElem?_toArray, List.getElem?_cons_succ, List.getElem?_cons_zero] at hx1
  have hlx : Lt w.heap.size w1.heap.size := HX1.out.lt
  go_cut [5] (fun s5 wx => Hid (Below w1.heap.size w1 wx) ∧ Hid (PartsIn K (w.heap.size + 1 + 1) wx s5 [(r, (none, none))]))
  case first =>
    go_region_held3 (fun w9 => w9.cell? ⟨w.heap.size, 1, none⟩ = some (.int .i64 r)) (simp [go_sem, *]) (first | (go_at_call 61; refine (keyAll_any _).mono ?_; (rintro e w' ⟨rfl, hb⟩; obtain ⟨n, es, rfl⟩ := below_more hb; clear hb)))
    all_goals
      go_wp2
      go_meet
      refine ⟨Lib.hid (by (repeat (first | exact Below.refl _ _ | assumption | refine nw_more ?_ _ _ | refine nw_alloc ?_ _ | refine nw_drew ?_ | refine nw_drewN ?_ _ | refine nw_set ?_ (by first | (simp; done) | (simp; omega) | omega) _))), Lib.hid ?_⟩
      have h := World.ownsRow_lit (e := 107) (size := 4) (base := w.heap.size + 1 + 1) (more w1 n es) #[.int .i64 r, .string { data := #[] }, .string { data := #[] }, .bool true] 1 (by have := HR1.out.lt; simp; omega) (by unfold maxLen; omega) rfl
      rw [more_size] at h
      exact OwnP.inn (K := K) (l := [(r, (none, none))]) h (by simp)
  case rest =>
  obtain ⟨HBW, HPL⟩ := hcut
  have HB2 := Lib.hid (nw_trans HB1.out HBW.out)
  have HX2 := Lib.hid (HX1.out.below HBW.out)
  have HR2 := Lib.hid (HR1.out.below HBW.out)
  clear HB1 HX1 HR1 hx1 hlx HBW
  go_wp2_with fail
  go_loopg [4, 5] (P.length + 2) (fun g s4 s5 wr => ∃ (f c : Nat) (R : List Bool) (l : List (Int × Bd α)), g = f + 1 ∧ s4 = .int .i64 c ∧ R.length = P.length ∧ R.count true = c ∧ P.length + 1 ≤ f + c ∧ l.length ≤ 1000 ∧ Hid (levelsB K t f R c l = res) ∧ Hid (PartsIn K (w.heap.size + 1 + 1) wr s5 l) ∧ Hid (Below w.heap.size w wr) ∧ Hid (Blc wr w.heap.size 25 #[.slice np P.length nc, .int .i64 r, .slice fp F.length fc]) ∧ Hid (Blc wr (w.heap.size + 1) 4 (boolArr R)))
  case atStart => exact ⟨P.length + 1, 0, List.replicate P.length false, [(r, (none, none))], by omega, rfl, List.length_replicate .., (by rw [List.count_replicate]; rfl), by omega, (by show 1 ≤ 1000; omega), HRES, HPL, HB2, HX2, HR2⟩
  case round =>
    clear HRES HPL HB2 HX2 HR2
    obtain ⟨f, c, R, l, rfl, rfl, hRl, hRc, hfc, hl, HL, HPL, HB, HX, HR⟩ := hrel
    have hcn : c ≤ P.length := by have := count_le R; omega
    obtain ⟨lp, lc, hlv, -⟩ := HPL.out.2
    subst hlv
    cases l with
    | nil =>
      have HE : Hid (decide (c + F.length = P.length) = res) := Lib.hid (by
        have := HL.out
        rw [levelsB, HTF.out, HTN.out] at this; exact this)
      have hx0 := HX.out.cell 0
      have hx2 := HX.out.cell 2
      simp only [List.getElem?_toArray, List.getElem?_cons_succ, List.getElem?_cons_zero] at hx0 hx2
      clear HL
      go_wp2
      go_ret
      exact ⟨ret_bool (by rw [← HE.out, Bool.eq_iff_iff]; simp; omega), by have hbel := HB.out; (repeat (first | exact Below.refl _ _ | assumption | refine nw_more ?_ _ _ | refine nw_alloc ?_ _ | refine nw_drew ?_ | refine nw_drewN ?_ _ | refine nw_set ?_ (by first | (simp; done) | (simp; omega) | omega) _))⟩
    | cons p l =>
      cases f with
      | zero => omega
      | succ f =>
        have HLS : Hid (nextB K t f c (p :: l) (levelB K t (leafOf t p.1) (p :: l) R) = res) := Lib.hid (by rw [← levels_step]; exact HL.out)
        clear HL
        generalize hll : p :: l = ll at *
        have hpos : 0 < ll.length := by rw [← hll]; simp
        have hp0 : ll[0]? = some p := by rw [← hll]; rfl
        clear hll
        obtain ⟨pi0, pb0⟩ := p
        dsimp only at HLS
        generalize hlf : leafOf t pi0 = leaf0 at *
        have HLF := Lib.hid hlf
        clear hlf
        go_wp2_with fail
        go_loopg [25] (ll.length + 1) (fun g s25 wx => ∃ (j : Nat) (R' : List Bool), j ≤ ll.length ∧ g + j = ll.length + 1 ∧ s25 = .int .i64 j ∧ R'.length = P.length ∧ R'.count true = c + j ∧ Hid (levelB K t leaf0 (ll.drop j) R' = levelB K t leaf0 ll R) ∧ Hid (j = 0 ∨ ∃ (q0 : Nat) (x0 : Nv α), pi0 = q0 ∧ P[q0]? = some x0) ∧ Hid (PartsIn K (w.heap.size + 1 + 1) wx (.slice lp ll.length lc) ll) ∧ Hid (Below w.heap.size w wx) ∧ Hid (Blc wx w.heap.size 25 #[.slice np P.length nc, .int .i64 r, .slice fp F.length fc]) ∧ Hid (Blc wx (w.heap.size + 1) 4 (boolArr R')))
        case atStart => exact ⟨0, R, by omega, by omega, rfl, hRl, hRc, rfl, Lib.hid (.inl rfl), HPL, HB, HX, HR⟩
        case round =>
          clear HPL HB HX HR
          obtain ⟨j, R', hj, hg, rfl, hRl', hRc', HLV, HQ0, HPL, HB, HX, HR⟩ := hrel
          obtain rfl : gk = ll.length + 1 - j := by omega
          clear hg
          by_cases hjl : j < ll.length
          · have hpj : ll[j]? = some ll[j] := List.getElem?_eq_getElem hjl
            have hdrop : ll.drop j = ll[j] :: ll.drop (j + 1) := List.drop_eq_getElem_cons hjl
            generalize ll[j] = pt at *
            obtain ⟨pi, pb⟩ := pt
            obtain ⟨-, lp', lc', e', -, hcells⟩ := HPL.out
            obtain ⟨rfl, rfl⟩ : lp = lp' ∧ lc = lc' := by simpa using e'
            obtain ⟨lb, loff, rfl, hlB, hlb, hl0, hl1, hl2, hl3⟩ := hcells j _ hpj
            obtain ⟨lb', loff', e2, -, -, g0, g1, g2, g3⟩ := hcells 0 _ hp0
            obtain ⟨rfl, rfl⟩ : lb = lb' ∧ loff = loff' := by simpa using e2
            simp only [Nat.zero_mul, Nat.add_zero] at g0 g1 g2 g3
            have HLD : Hid (levelB K t leaf0 ((pi, pb) :: ll.drop (j + 1)) R' = levelB K t leaf0 ll R) := Lib.hid (by rw [← hdrop]; exact HLV.out)
            have HFAIL : Hid (levelB K t leaf0 ((pi, pb) :: ll.drop (j + 1)) R' = none → false = res) := Lib.hid (fun h0 => by
              have h1 := HLS.out
              rw [← HLD.out, h0] at h1; exact h1)
            dsimp only at hl0 hl1 hl2 hl3 g0 g1 g2 g3
            have hx0 := HX.out.cell 0
            have hx1 := HX.out.cell 1
            have hx2 := HX.out.cell 2
            simp only [List.getElem?_toArray, List.getElem?_cons_succ, List.getElem?_cons_zero] at hx0 hx1 hx2
            have hlx : Lt w.heap.size wr.heap.size := HX.out.lt
            have hlr : Lt (w.heap.size + 1) wr.heap.size := HR.out.lt
            have hlL : Lt lb wr.heap.size := hlb
            have hll0 : (0 : Int) < (ll.length : Int) := by omega
            have j1 : (j : Int) < (ll.length : Int) := by omega
            generalize hlo : loS K pb.1 = lo at *
            generalize hhi : loS K pb.2 = hi2 at *
            generalize htop : pb.2.isNone = top at *
            have HBD : Hid (BdIs K pb lo hi2 top) := Lib.hid ⟨hlo.symm, hhi.symm, htop.symm⟩
            generalize loS K pb0.1 = lo0 at *
            generalize loS K pb0.2 = hi0 at *
            generalize pb0.2.isNone = top0 at *
            clear hlo hhi htop hdrop hcells e' e2 HLV
            cases hnd : nodeB P.length pi
            · have HE := Lib.hid (HFAIL.out (level_out (by rw [← HT0.out]; exact nds_none hnd)))
              have HND := Lib.hid hnd
              clear hnd
              go_wp2_with fail
              (refine wp_region_quiet_more (by kernel_rfl) (by kernel_rfl) ?_; (repeat (first | go_big_quiet_skip | quiet_step ((first | (go_at_call 59; exact Calls.more_bool _ HND.out (isNode_any _ _ _ _ _ _ _)))))); refine wpQuiet_nil ?_; intro _ hw'; obtain ⟨⟨nq, esq⟩, hw''⟩ := hw'; subst hw''; dsimp only)
              go_wp2
              go_ret
              exact ⟨ret_bool HE.out, by have hbel := HB.out; (repeat (first | exact Below.refl _ _ | assumption | refine nw_more ?_ _ _ | refine nw_alloc ?_ _ | refine nw_drew ?_ | refine nw_drewN ?_ _ | refine nw_set ?_ (by first | (simp; done) | (simp; omega) | omega) _))⟩
            · have HND := Lib.hid hnd
              obtain ⟨q, rfl, hq⟩ := node_in hnd
              obtain ⟨x, hx⟩ : ∃ x, P[q]? = some x := ⟨_, List.getElem?_eq_getElem hq⟩
              have HXQ := Lib.hid hx
              have HTA : Hid (t.at (q : Int) = some x.n) := Lib.hid (by rw [← HT0.out]; exact nds_at hx)
              have hrq := HR.out.cell q
              rw [boolArr_at (by omega)] at hrq
              have hrf := HR.out.free q
              have q1 : (q : Int) < (P.length : Int) := by omega
              have q0' : (0 : Int) ≤ (q : Int) := by omega
              clear hnd hx
              cases hrv : R'.getD q true
              rotate_left
              · rw [hrv] at hrq
                have HE := Lib.hid (HFAIL.out (level_twice (by simpa using hrv)))
                clear hrv
                go_wp2_with fail
                (refine wp_region_quiet_more (by kernel_rfl) (by kernel_rfl) ?_; (repeat (first | go_big_quiet_skip | quiet_step ((first | (go_at_call 59; exact Calls.more_bool _ HND.out (isNode_any _ _ _ _ _ _ _)))))); refine wpQuiet_nil ?_; intro _ hw'; obtain ⟨⟨nq, esq⟩, hw''⟩ := hw'; subst hw''; dsimp only)
                go_wp2
                go_ret
                exact ⟨ret_bool HE.out, by have hbel := HB.out; (repeat (first | exact Below.refl _ _ | assumption | refine nw_more ?_ _ _ | refine nw_alloc ?_ _ | refine nw_drew ?_ | refine nw_drewN ?_ _ | refine nw_set ?_ (by first | (simp; done) | (simp; omega) | omega) _))⟩
              · rw [hrv] at hrq
                have HRV := Lib.hid hrv
                clear hrv
                cases hpb : partB K x.n (decide ((q : Int) = r)) pb
                · have HPB := Lib.hid hpb
                  have HE := Lib.hid (HFAIL.out (level_part HTA.out (by rw [HTR.out]; exact hpb)))
                  clear hpb
                  go_wp2_with fail
                  (refine wp_region_quiet_more (by kernel_rfl) (by kernel_rfl) ?_; (repeat (first | go_big_quiet_skip | quiet_step ((first | (go_at_call 59; exact Calls.more_bool _ HND.out (isNode_any _ _ _ _ _ _ _)) | (go_at_call 63; exact Calls.more_bool _ HPB.out (part_any K B _ _ _ _ P q x pb lo hi2 top (HN.out.below (nw_trans HB.out (by (repeat (first | exact Below.refl _ _ | assumption | refine nw_more ?_ _ _ | refine nw_alloc ?_ _ | refine nw_drew ?_ | refine nw_drewN ?_ _ | refine nw_set ?_ (by first | (simp; done) | (simp; omega) | omega) _))))) HXQ.out HBD.out)))))); refine wpQuiet_nil ?_; intro _ hw'; obtain ⟨⟨nq, esq⟩, hw''⟩ := hw'; subst hw''; dsimp only)
                  go_wp2
                  go_ret
                  exact ⟨ret_bool HE.out, by have hbel := HB.out; (repeat (first | exact Below.refl _ _ | assumption | refine nw_more ?_ _ _ | refine nw_alloc ?_ _ | refine nw_drew ?_ | refine nw_drewN ?_ _ | refine nw_set ?_ (by first | (simp; done) | (simp; omega) | omega) _))⟩
                · have HPB := Lib.hid hpb
                  clear hpb
                  have hq0 : ∃ (q0 : Nat) (x0 : Nv α), pi0 = q0 ∧ P[q0]? = some x0 := by
                    rcases HQ0.out with h0 | h0
                    · subst h0
                      rw [hp0] at hpj
                      simp only [Option.some.injEq, Prod.mk.injEq] at hpj
                      exact ⟨q, x, hpj.1, HXQ.out⟩
                    · exact h0
                  obtain ⟨q0, x0, rfl, hxq0⟩ := hq0
                  have HXQ0 := Lib.hid hxq0
                  have hlf0 : x0.n.leaf = leaf0 := by rw [← HLF.out]; exact (leafOf_at (by rw [← HT0.out]; exact nds_at hxq0)).symm
                  have HLX0 := Lib.hid hlf0
                  clear hxq0 hlf0
                  cases hlx2 : x.n.leaf
                  · have HLX := Lib.hid hlx2
                    clear hlx2
                    cases leaf0 with
                    | false =>
                      have HLN : Hid (levelB K t _ (ll.drop (j + 1)) (R'.set q true) = _) := Lib.hid (by have h := (level_go HTA.out (by simpa using HRV.out) (by rw [HTR.out]; exact HPB.out) (by rw [HLX.out]; rfl)).symm.trans HLD.out; exact h)
                      go_wp2_with fail
                      (refine wp_region_quiet_more (by kernel_rfl) (by kernel_rfl) ?_; (repeat (first | go_big_quiet_skip | quiet_step ((first | (go_at_call 59; exact Calls.more_bool _ HND.out (isNode_any _ _ _ _ _ _ _)) | (go_at_call 63; exact Calls.more_bool _ HPB.out (part_any K B _ _ _ _ P q x pb lo hi2 top (HN.out.below (nw_trans HB.out (by (repeat (first | exact Below.refl _ _ | assumption | refine nw_more ?_ _ _ | refine nw_alloc ?_ _ | refine nw_drew ?_ | refine nw_drewN ?_ _ | refine nw_set ?_ (by first | (simp; done) | (simp; omega) | omega) _))))) HXQ.out HBD.out)) | (go_at_call_of 64 (q : Int); exact Calls.more_bool _ HLX.out (isLeaf_any K B _ _ _ _ P q x _ _ _ (HN.out.below (nw_trans HB.out (by (repeat (first | exact Below.refl _ _ | assumption | refine nw_more ?_ _ _ | refine nw_alloc ?_ _ | refine nw_drew ?_ | refine nw_drewN ?_ _ | refine nw_set ?_ (by first | (simp; done) | (simp; omega) | omega) _))))) HXQ.out)) | (go_at_call_of 64 (q0 : Int); exact Calls.more_bool _ HLX0.out (isLeaf_any K B _ _ _ _ P q0 x0 _ _ _ (HN.out.below (nw_trans HB.out (by (repeat (first | exact Below.refl _ _ | assumption | refine nw_more ?_ _ _ | refine nw_alloc ?_ _ | refine nw_drew ?_ | refine nw_drewN ?_ _ | refine nw_set ?_ (by first | (simp; done) | (simp; omega) | omega) _))))) HXQ0.out)))))); refine wpQuiet_nil ?_; intro _ hw'; obtain ⟨⟨nq, esq⟩, hw''⟩ := hw'; subst hw''; dsimp only)
                      go_wp2
                      obtain ⟨-, hcnt⟩ := count_set HRV.out
                      have hr2 := HR.out.set q (.bool true)
                      rw [boolArr_set] at hr2
                      go_roundg (ll.length + 1 - j - 1)
                      case measure => omega
                      case rel => exact ⟨j + 1, R'.set q true, by omega, by omega, by go_num, by rw [List.length_set]; exact hRl', by rw [hcnt, hRc']; omega, HLN, Lib.hid (.inr ⟨q0, x0, rfl, HXQ0.out⟩), Lib.hid ((HPL.out.stays (Stays.set (a := ⟨w.heap.size + 1, q, none⟩) (Nat.lt_succ_self _) (.bool true))).below (by (repeat (first | exact Below.refl _ _ | assumption | refine nw_more ?_ _ _ | refine nw_alloc ?_ _ | refine nw_drew ?_ | refine nw_drewN ?_ _ | refine nw_set ?_ (by first | (simp; done) | (simp; omega) | omega) _)))), Lib.hid (by have hbel := HB.out; (repeat (first | exact Below.refl _ _ | assumption | refine nw_more ?_ _ _ | refine nw_alloc ?_ _ | refine nw_drew ?_ | refine nw_drewN ?_ _ | refine nw_set ?_ (by first | (simp; done) | (simp; omega) | omega) _))), Lib.hid (((HX.out.far (a := ⟨w.heap.size + 1, q, none⟩) (Nat.ne_of_lt (Nat.lt_succ_self _)) (.bool true)).alloc _).mre _ _), Lib.hid ((hr2.alloc _).mre _ _)⟩
                    | true =>
                      have HE := Lib.hid (HFAIL.out (level_leaf HTA.out (by rw [HLX.out]; rfl)))
                      go_wp2_with fail
                      (refine wp_region_quiet_more (by kernel_rfl) (by kernel_rfl) ?_; (repeat (first | go_big_quiet_skip | quiet_step ((first | (go_at_call 59; exact Calls.more_bool _ HND.out (isNode_any _ _ _ _ _ _ _)) | (go_at_call 63; exact Calls.more_bool _ HPB.out (part_any K B _ _ _ _ P q x pb lo hi2 top (HN.out.below (nw_trans HB.out (by (repeat (first | exact Below.refl _ _ | assumption | refine nw_more ?_ _ _ | refine nw_alloc ?_ _ | refine nw_drew ?_ | refine nw_drewN ?_ _ | refine nw_set ?_ (by first | (simp; done) | (simp; omega) | omega) _))))) HXQ.out HBD.out)) | (go_at_call_of 64 (q : Int); exact Calls.more_bool _ HLX.out (isLeaf_any K B _ _ _ _ P q x _ _ _ (HN.out.below (nw_trans HB.out (by (repeat (first | exact Below.refl _ _ | assumption | refine nw_more ?_ _ _ | refine nw_alloc ?_ _ | refine nw_drew ?_ | refine nw_drewN ?_ _ | refine nw_set ?_ (by first | (simp; done) | (simp; omega) | omega) _))))) HXQ.out)) | (go_at_call_of 64 (q0 : Int); exact Calls.more_bool _ HLX0.out (isLeaf_any K B _ _ _ _ P q0 x0 _ _ _ (HN.out.below (nw_trans HB.out (by (repeat (first | exact Below.refl _ _ | assumption | refine nw_more ?_ _ _ | refine nw_alloc ?_ _ | refine nw_drew ?_ | refine nw_drewN ?_ _ | refine nw_set ?_ (by first | (simp; done) | (simp; omega) | omega) _))))) HXQ0.out)))))); refine wpQuiet_nil ?_; intro _ hw'; obtain ⟨⟨nq, esq⟩, hw''⟩ := hw'; subst hw''; dsimp only)
                      go_wp2
                      go_ret
                      exact ⟨ret_bool HE.out, by have hbel := HB.out; (repeat (first | exact Below.refl _ _ | assumption | refine nw_more ?_ _ _ | refine nw_alloc ?_ _ | refine nw_drew ?_ | refine nw_drewN ?_ _ | refine nw_set ?_ (by first | (simp; done) | (simp; omega) | omega) _))⟩
                  · have HLX := Lib.hid hlx2
                    clear hlx2
                    cases leaf0 with
                    | false =>
                      have HE := Lib.hid (HFAIL.out (level_leaf HTA.out (by rw [HLX.out]; rfl)))
                      go_wp2_with fail
                      (refine wp_region_quiet_more (by kernel_rfl) (by kernel_rfl) ?_; (repeat (first | go_big_quiet_skip | quiet_step ((first | (go_at_call 59; exact Calls.more_bool _ HND.out (isNode_any _ _ _ _ _ _ _)) | (go_at_call 63; exact Calls.more_bool _ HPB.out (part_any K B _ _ _ _ P q x pb lo hi2 top (HN.out.below (nw_trans HB.out (by (repeat (first | exact Below.refl _ _ | assumption | refine nw_more ?_ _ _ | refine nw_alloc ?_ _ | refine nw_drew ?_ | refine nw_drewN ?_ _ | refine nw_set ?_ (by first | (simp; done) | (simp; omega) | omega) _))))) HXQ.out HBD.out)) | (go_at_call_of 64 (q : Int); exact Calls.more_bool _ HLX.out (isLeaf_any K B _ _ _ _ P q x _ _ _ (HN.out.below (nw_trans HB.out (by (repeat (first | exact Below.refl _ _ | assumption | refine nw_more ?_ _ _ | refine nw_alloc ?_ _ | refine nw_drew ?_ | refine nw_drewN ?_ _ | refine nw_set ?_ (by first | (simp; done) | (simp; omega) | omega) _))))) HXQ.out)) | (go_at_call_of 64 (q0 : Int); exact Calls.more_bool _ HLX0.out (isLeaf_any K B _ _ _ _ P q0 x0 _ _ _ (HN.out.below (nw_trans HB.out (by (repeat (first | exact Below.refl _ _ | assumption | refine nw_more ?_ _ _ | refine nw_alloc ?_ _ | refine nw_drew ?_ | refine nw_drewN ?_ _ | refine nw_set ?_ (by first | (simp; done) | (simp; omega) | omega) _))))) HXQ0.out)))))); refine wpQuiet_nil ?_; intro _ hw'; obtain ⟨⟨nq, esq⟩, hw''⟩ := hw'; subst hw''; dsimp only)
                      go_wp2
                      go_ret
                      exact ⟨ret_bool HE.out, by have hbel := HB.out; (repeat (first | exact Below.refl _ _ | assumption | refine nw_more ?_ _ _ | refine nw_alloc ?_ _ | refine nw_drew ?_ | refine nw_drewN ?_ _ | refine nw_set ?_ (by first | (simp; done) | (simp; omega) | omega) _))⟩
                    | true =>
                      have HLN : Hid (levelB K t _ (ll.drop (j + 1)) (R'.set q true) = _) := Lib.hid (by have h := (level_go HTA.out (by simpa using HRV.out) (by rw [HTR.out]; exact HPB.out) (by rw [HLX.out]; rfl)).symm.trans HLD.out; exact h)
                      go_wp2_with fail
                      (refine wp_region_quiet_more (by kernel_rfl) (by kernel_rfl) ?_; (repeat (first | go_big_quiet_skip | quiet_step ((first | (go_at_call 59; exact Calls.more_bool _ HND.out (isNode_any _ _ _ _ _ _ _)) | (go_at_call 63; exact Calls.more_bool _ HPB.out (part_any K B _ _ _ _ P q x pb lo hi2 top (HN.out.below (nw_trans HB.out (by (repeat (first | exact Below.refl _ _ | assumption | refine nw_more ?_ _ _ | refine nw_alloc ?_ _ | refine nw_drew ?_ | refine nw_drewN ?_ _ | refine nw_set ?_ (by first | (simp; done) | (simp; omega) | omega) _))))) HXQ.out HBD.out)) | (go_at_call_of 64 (q : Int); exact Calls.more_bool _ HLX.out (isLeaf_any K B _ _ _ _ P q x _ _ _ (HN.out.below (nw_trans HB.out (by (repeat (first | exact Below.refl _ _ | assumption | refine nw_more ?_ _ _ | refine nw_alloc ?_ _ | refine nw_drew ?_ | refine nw_drewN ?_ _ | refine nw_set ?_ (by first | (simp; done) | (simp; omega) | omega) _))))) HXQ.out)) | (go_at_call_of 64 (q0 : Int); exact Calls.more_bool _ HLX0.out (isLeaf_any K B _ _ _ _ P q0 x0 _ _ _ (HN.out.below (nw_trans HB.out (by (repeat (first | exact Below.refl _ _ | assumption | refine nw_more ?_ _ _ | refine nw_alloc ?_ _ | refine nw_drew ?_ | refine nw_drewN ?_ _ | refine nw_set ?_ (by first | (simp; done) | (simp; omega) | omega) _))))) HXQ0.out)))))); refine wpQuiet_nil ?_; intro _ hw'; obtain ⟨⟨nq, esq⟩, hw''⟩ := hw'; subst hw''; dsimp only)
                      go_wp2
                      obtain ⟨-, hcnt⟩ := count_set HRV.out
                      have hr2 := HR.out.set q (.bool true)
                      rw [boolArr_set] at hr2
                      go_roundg (ll.length + 1 - j - 1)
                      case measure => omega
                      case rel => exact ⟨j + 1, R'.set q true, by omega, by omega, by go_num, by rw [List.length_set]; exact hRl', by rw [hcnt, hRc']; omega, HLN, Lib.hid (.inr ⟨q0, x0, rfl, HXQ0.out⟩), Lib.hid ((HPL.out.stays (Stays.set (a := ⟨w.heap.size + 1, q, none⟩) (Nat.lt_succ_self _) (.bool true))).below (by (repeat (first | exact Below.refl _ _ | assumption | refine nw_more ?_ _ _ | refine nw_alloc ?_ _ | refine nw_drew ?_ | refine nw_drewN ?_ _ | refine nw_set ?_ (by first | (simp; done) | (simp; omega) | omega) _)))), Lib.hid (by have hbel := HB.out; (repeat (first | exact Below.refl _ _ | assumption | refine nw_more ?_ _ _ | refine nw_alloc ?_ _ | refine nw_drew ?_ | refine nw_drewN ?_ _ | refine nw_set ?_ (by first | (simp; done) | (simp; omega) | omega) _))), Lib.hid (((HX.out.far (a := ⟨w.heap.size + 1, q, none⟩) (Nat.ne_of_lt (Nat.lt_succ_self _)) (.bool true)).alloc _).mre _ _), Lib.hid ((hr2.alloc _).mre _ _)⟩
          · have e : j = ll.length := by omega
            have HS : Hid (levelB K t leaf0 ll R = some R') := Lib.hid (by
              have h := HLV.out
              rw [e, List.drop_length, levelB] at h; exact h.symm)
            have HNX : Hid (levelsB K t f R' (c + ll.length) (belowB t ll) = res) := Lib.hid (by
              have h := HLS.out
              rw [HS.out] at h; exact h)
            have hcl : c + ll.length ≤ P.length := by have := count_le R'; rw [← e]; omega
            have HLO : Hid (LevelOk P ll) := Lib.hid (fun p hp => by
              obtain ⟨n, hn, hpt⟩ := level_some HS.out p hp
              obtain ⟨k, x, h1, h2, h3⟩ := at_nds (P := P) (r := r) (F := F) (by rw [HT0.out]; exact hn)
              obtain ⟨h4, h5⟩ := part_lists hpt
              rw [← h3] at h4 h5
              exact ⟨k, x, h1, h2, h4, h5⟩)
            have HBL : Hid ((belowB t ll).length ≤ ll.length * 5) := Lib.hid (below_len (fun p hp => by
              obtain ⟨n, hn, hpt⟩ := level_some HS.out p hp
              obtain ⟨h4, h5⟩ := part_lists hpt
              exact ⟨n, hn, by omega⟩))
            have hlr : w.heap.size + 1 < wr.heap.size := HR.out.lt
            have hx0 := HX.out.cell 0
            have hx1 := HX.out.cell 1
            have hx2 := HX.out.cell 2
            simp only [List.getElem?_toArray, List.getElem?_cons_succ, List.getElem?_cons_zero] at hx0 hx1 hx2
            subst e
            clear HLV HLS HS
            go_wp2_with fail
            refine (below_any K B (w.heap.size + 1 + 1) _ _ _ _ r P F ll (HN.out.below (nw_trans HB.out (by (repeat (first | exact Below.refl _ _ | assumption | refine nw_more ?_ _ _ | refine nw_alloc ?_ _ | refine nw_drew ?_ | refine nw_drewN ?_ _ | refine nw_set ?_ (by first | (simp; done) | (simp; omega) | omega) _))))) HPL.out HLO.out hl).mono ?_
            rintro e w' ⟨nx, rfl, ho, hb⟩
            rw [HT0.out] at ho
            obtain ⟨n2, es2, rfl⟩ := below_more hb
            have hbl := HBL.out
            have HPN : Hid (PartsIn K (w.heap.size + 1 + 1) (more wr n2 es2) nx (belowB t ll)) := Lib.hid ((OwnP.inn ho (by omega)).mono (by omega))
            clear hb ho
            go_wp2
            go_roundg (f + 1)
            case measure => omega
            case rel => exact ⟨f, c + ll.length, R', belowB t ll, rfl, by go_num, hRl', hRc', by omega, by omega, HNX, HPN, Lib.hid (by have hbel := HB.out; (repeat (first | exact Below.refl _ _ | assumption | refine nw_more ?_ _ _ | refine nw_alloc ?_ _ | refine nw_drew ?_ | refine nw_drewN ?_ _ | refine nw_set ?_ (by first | (simp; done) | (simp; omega) | omega) _))), Lib.hid (HX.out.mre _ _), Lib.hid (HR.out.mre _ _)⟩
end Go.Proofs.YtaophiknldkfdaaGreatDoor
