/- Contract of package tree: the level below. -/
import Derived.Test.YtaophiknldkfdaaGreatDoorTreeD
import Derived.Test.YtaophiknldkfdaaGreatDoorWPlain
namespace Go.Proofs.YtaophiknldkfdaaGreatDoor
open Go.RowKit

theorem OwnP.not {α : Type} {K : Ks α} {B : Nat} {w : World} {v : Value} {l : List (Int × Bd α)} (h : OwnP K B w v l) {b : Nat} {T : TypeId} {cs : Array Value} (hb : Blc w b T cs) (hT : T ≠ 107) : v.ownBlock ≠ some b := by
  rcases h.2 with ⟨rfl, -⟩ | ⟨g, cap, cur, rfl, -, hg, -⟩
  · simp [Value.ownBlock]
  · intro e
    obtain rfl : g = b := by simpa [Value.ownBlock] using e
    unfold Blc at hb
    rw [hb] at hg
    simp at hg
    exact hT hg.2
/-- The parts of a level are of nodes that may have kids. -/
def LevelOk {α : Type} (P : List (Nv α)) (l : List (Int × Bd α)) : Prop := ∀ p ∈ l, ∃ (k : Nat) (x : Nv α), p.1 = k ∧ P[k]? = some x ∧ x.n.kids.length ≤ x.n.keys.length + 1 ∧ x.n.keys.length ≤ 4
theorem below_cons {α : Type} {P : List (Nv α)} {r : Int} {F : List Int} {k : Nat} {x : Nv α} {b : Bd α} {l : List (Int × Bd α)} (h : P[k]? = some x) : belowB (Tr.mk (ndsOf P) r F) (((k : Int), b) :: l) = kidsB b.2 b.1 x.n.kids x.n.keys ++ belowB (Tr.mk (ndsOf P) r F) l := by
  rw [belowB, nds_at h]

set_option maxRecDepth 100000 in
set_option maxHeartbeats 4000000 in
theorem below_any {α : Type} (K : Ks α) (B B2 : Nat) (w : World) (v u lv : Value) (r : Int) (P : List (Nv α)) (F : List Int) (l : List (Int × Bd α)) (h : NodesIn K B w v P) (hl : PartsIn K B2 w lv l) (ho : LevelOk P l) (h1000 : l.length ≤ 1000) :
    Calls Tryz.prog 62 #[.agg #[v, .int .i64 r, u], lv] w fun e w' => ∃ nx, e = .returned nx ∧ OwnP K w.heap.size w' nx (belowB (Tr.mk (ndsOf P) r F) l) ∧ Below w.heap.size w w' := by
  have HN := Lib.hid h
  have HL := Lib.hid hl
  have HO := Lib.hid ho
  obtain ⟨np, nc, rfl, -⟩ := h.slice
  obtain ⟨-, lp, lc, rfl, -, -⟩ := hl
  obtain ⟨i0, hi, hz0, hz1, hz2⟩ := info_parts info_part
  have HI := Lib.hid hi
  clear h ho hi
  generalize ht : Tr.mk (ndsOf P) r F = t
  have HT0 := Lib.hid ht
  clear ht
  go_enter Tryz.func62, Tryz.ntmps62
  go_wp2
  go_loopg [5, 13] (l.length + 1) (fun g s5 s13 wr => ∃ (k : Nat) (c : List (Int × Bd α)), k ≤ l.length ∧ g + k = l.length + 1 ∧ s13 = .int .i64 k ∧ c.length ≤ k * 5 ∧ Hid (c ++ belowB t (l.drop k) = belowB t l) ∧ Hid (OwnP K w.heap.size wr s5 c) ∧ Hid (Below w.heap.size w wr) ∧ Hid (Blc wr w.heap.size 25 #[.slice np P.length nc, .int .i64 r, u]))
  case atStart => exact ⟨0, [], Nat.zero_le _, by omega, rfl, by simp, rfl, OwnP.nil _ _ _, Lib.hid (by (repeat (first | exact Below.refl _ _ | assumption | refine nw_more ?_ _ _ | refine nw_alloc ?_ _ | refine nw_drew ?_ | refine nw_drewN ?_ _ | refine nw_set ?_ (by first | (simp; done) | (simp; omega) | omega) _))), Lib.hid (Blc.new _ _ _)⟩
  case round =>
    obtain ⟨k, c, hk, hg, rfl, hcl, HT, HOW, HB, HBX⟩ := hrel
    obtain rfl : gk = l.length + 1 - k := by omega
    clear hg
    by_cases hlt : k < l.length
    · have hpk : l[k]? = some l[k] := List.getElem?_eq_getElem hlt
      obtain ⟨q, x, hq, hx, hkids, hkeys⟩ := HO.out _ (List.mem_of_getElem? hpk)
      have hdrop : l.drop k = l[k] :: l.drop (k + 1) := List.drop_eq_getElem_cons hlt
      generalize l[k] = pt at *
      obtain ⟨pi, pb⟩ := pt
      dsimp only at hq
      subst hq
      obtain ⟨-, lp', lc', e', -, hcells⟩ := HL.out.below HB.out
      obtain ⟨rfl, rfl⟩ : lp = lp' ∧ lc = lc' := by simpa using e'
      obtain ⟨lb, loff, rfl, -, hlb, hl0, hl1, hl2, hl3⟩ := hcells k _ hpk
      obtain ⟨bb, boff, bcap, p1, d1, p2, d2, p3, d3, e0, hqP, hbb, e1, e2, e3, hc0, hc1, hc2, hc3, hnode⟩ := nodes_get (HN.out.below HB.out) hx
      obtain ⟨rfl, rfl⟩ : np = some ⟨bb, boff, none⟩ ∧ nc = bcap := by simpa using e0
      have hnw : NodeIn K B w x := HN.out.2.2 x (List.mem_of_getElem? hx)
      have HT1 : Hid (c ++ (kidsB pb.2 pb.1 x.n.kids x.n.keys ++ belowB t (l.drop (k + 1))) = belowB t l) := Lib.hid (by
        have := HT.out
        rw [hdrop, ← HT0.out, below_cons hx, HT0.out] at this
        exact this)
      have hbx := HBX.out
      have hx0 := hbx.cell 0
      simp only [List.getElem?_toArray, List.getElem?_cons_zero] at hx0
      have hlx : Lt w.heap.size wr.heap.size := hbx.lt
      have hlL : Lt lb wr.heap.size := hlb
      obtain ⟨kv, rv, cv, ks, rs, cs, leaf⟩ := x
      dsimp only at e1 e2 e3 hc0 hc1 hc2 hc3 hnode hkids hkeys HT1 hnw
      subst e1 e2 e3
      obtain ⟨cp, cc, ecs, hcsl, hcsat⟩ := hnw.2.2.at
      dsimp only at ecs hcsl hcsat
      have HCS := Lib.hid hcsat
      have HKS : Hid (KeysIn K B w (.slice p1 ks.length d1) ks) := Lib.hid hnw.1
      obtain ⟨rfl, rfl⟩ : p3 = cp ∧ d3 = cc := by simpa using ecs
      have HRN : Hid ((u5 : Value).ownBlock ≠ some wr.heap.size) := Lib.hid (fun e => by have := (World.ownsRow.lt HOW.out _ e).2; omega)
      clear hnw hnode hcsat ecs
      have q1 : (q : Int) < (P.length : Int) := by omega
      have q0 : (0 : Int) ≤ (q : Int) := by omega
      have k1 : (k : Int) < (l.length : Int) := by omega
      generalize hlo : loS K pb.1 = lo at *
      generalize hhi : loS K pb.2 = hi2 at *
      generalize htop : pb.2.isNone = top at *
      have HBD : Hid (BdIs K pb lo hi2 top) := Lib.hid ⟨hlo.symm, hhi.symm, htop.symm⟩
      clear hlo hhi htop hdrop hpk hx hcells e' e0 HT hbx
      go_wp2_with fail
      go_loopg [5, 26] (cs.length + 1) (fun g s5 s26 wx => ∃ (j : Nat) (d : List (Int × Bd α)), j ≤ cs.length ∧ g + j = cs.length + 1 ∧ s26 = .int .i64 j ∧ d.length ≤ k * 5 + j ∧ Hid (d ++ (kidsB pb.2 (kidBd ks pb j).1 (cs.drop j) (ks.drop j) ++ belowB t (l.drop (k + 1))) = belowB t l) ∧ Hid (OwnP K w.heap.size wx s5 d) ∧ Hid (s5.ownBlock ≠ some wr.heap.size) ∧ Hid (Below w.heap.size w wx) ∧ Hid (Blc wx w.heap.size 25 #[.slice (some ⟨bb, boff, none⟩) P.length nc, .int .i64 r, u]) ∧ Hid (Blc wx wr.heap.size 107 #[.int .i64 q, .string lo, .string hi2, .bool top]) ∧ Hid (Blc wx (wr.heap.size + 1) 53 #[.slice p1 ks.length d1, .slice p2 rs.length d2, .slice p3 cs.length d3, .bool leaf]))
      case atStart =>
        refine ⟨0, c, Nat.zero_le _, by omega, rfl, by omega, HT1, Lib.hid (own_below HOW.out (by (repeat (first | exact Below.refl _ _ | assumption | refine nw_more ?_ _ _ | refine nw_alloc ?_ _ | refine nw_drew ?_ | refine nw_drewN ?_ _ | refine nw_set ?_ (by first | (simp; done) | (simp; omega) | omega) _)))), HRN, Lib.hid (nw_trans HB.out (by (repeat (first | exact Below.refl _ _ | assumption | refine nw_more ?_ _ _ | refine nw_alloc ?_ _ | refine nw_drew ?_ | refine nw_drewN ?_ _ | refine nw_set ?_ (by first | (simp; done) | (simp; omega) | omega) _)))), Lib.hid ((HBX.out.alloc _).alloc _), Lib.hid ((Blc.new _ _ _).alloc _), Lib.hid ?_⟩
        have h := Blc.new (wr.alloc (Obj.cells #[.int .i64 q, .string lo, .string hi2, .bool top] 107)) 53 #[.slice p1 ks.length d1, .slice p2 rs.length d2, .slice p3 cs.length d3, .bool leaf]
        have e : (wr.alloc (Obj.cells #[.int .i64 q, .string lo, .string hi2, .bool top] 107)).heap.size = wr.heap.size + 1 := by simp
        rw [e] at h
        exact h
      case round =>
        clear HOW HB HBX HT1 HRN hc0 hc1 hc2 hc3 hl0 hl1 hl2 hl3 hx0 hlx hlL hlb hbb
        obtain ⟨j, d, hj, hg, rfl, hdl, HT2, HOW, HRN, HB, HBX, HB7, HB8⟩ := hrel
        obtain rfl : gk = cs.length + 1 - j := by omega
        clear hg
        by_cases hjl : j < cs.length
        · obtain ⟨cb, coff, cj, rfl, hcb, hcc, hcd, hcj⟩ := HCS.out j hjl
          have hccW : wr.cell? ⟨cb, coff + j, none⟩ = some (.int .i64 cj) := by rw [HB.out.cell (p := ⟨cb, coff + j, none⟩) hcb.out]; exact hcc
          have hcbL : Lt cb wr.heap.size := Nat.lt_of_lt_of_le hcb.out HB.out.size
          have HT3 : Hid (d ++ ((cj, kidBd ks pb j) :: kidsB pb.2 (kidBd ks pb (j + 1)).1 (cs.drop (j + 1)) (ks.drop (j + 1)) ++ belowB t (l.drop (k + 1))) = belowB t l) := Lib.hid (by
            have := HT2.out; rw [kids_step hcd hkids] at this; exact this)
          have c71 := HB7.out.cell 1
          have c72 := HB7.out.cell 2
          have c73 := HB7.out.cell 3
          have c80 := HB8.out.cell 0
          simp only [List.getElem?_toArray, List.getElem?_cons_succ, List.getElem?_cons_zero] at c71 c72 c73 c80
          have hl7 : Lt _ wr.heap.size := HB7.out.lt
          have hl8 : Lt _ wr.heap.size := HB8.out.lt
          have j1 : (j : Int) < (cs.length : Int) := by omega
          have HS5 := Lib.hid (fun k hk => World.ownsRow.lt HOW.out k hk)
          clear hcc hcd hcj HT2
          go_wp2_with fail
          refine (kidRange_any K B _ _ ks pb lo hi2 top j (HKS.out.below (nw_trans HB.out (by (repeat (first | exact Below.refl _ _ | assumption | refine nw_more ?_ _ _ | refine nw_alloc ?_ _ | refine nw_drew ?_ | refine nw_drewN ?_ _ | refine nw_set ?_ (by first | (simp; done) | (simp; omega) | omega) _))))) HBD.out (by omega)).mono ?_
          rintro e w' ⟨lo', hi', top', rfl, hbd, hb⟩
          obtain ⟨n1, es1, rfl⟩ := below_more hb
          have HBD2 := Lib.hid hbd
          clear hb hbd
          go_wp2_with (at_builtin; refine wpList_append_lies _ rfl _ _ 108 rfl w.heap.size 107 i0 (.agg #[.int .i64 0, .string { data := #[] }, .string { data := #[] }, .bool false]) 4 48 Tryz.underlying108 HI.out hz0 hz1 hz2 rfl (by decide) _ _ _ rfl (own_below HOW.out (by (repeat (first | exact Below.refl _ _ | assumption | refine nw_more ?_ _ _ | refine nw_alloc ?_ _ | refine nw_drew ?_ | refine nw_drewN ?_ _ | refine nw_set ?_ (by first | (simp; done) | (simp; omega) | omega) _)))) ⟨_, 0, none⟩ 1 1 [.int .i64 cj, .string lo', .string hi', .bool top'] rfl rfl ?c1 ?c2 (by decide) ?c3 ?c4 ?c5 _ rfl ?_)
          case c1 => exact news4 (by simp [go_sem]) (by simp [go_sem]) (by simp [go_sem]) (by simp [go_sem])
          case c2 => exact news4_one rfl rfl rfl rfl
          case c3 => unfold maxLen; omega
          case c4 => omega
          case c5 => have := HB.out.size; simp; omega
          intro g' cap' w2 hown' hgrow hlies _
          obtain ⟨hd1, hd2, hd3⟩ := HBD2.out
          rw [hd1, hd2, hd3] at hown'
          have HOW' := Lib.hid (OwnP.snoc (x := (cj, kidBd ks pb j)) hown')
          have HB' := Lib.hid (below_append (w := w) (by have hbel := HB.out; (repeat (first | exact Below.refl _ _ | assumption | refine nw_more ?_ _ _ | refine nw_alloc ?_ _ | refine nw_drew ?_ | refine nw_drewN ?_ _ | refine nw_set ?_ (by first | (simp; done) | (simp; omega) | omega) _))) (own_below HOW.out (by (repeat (first | exact Below.refl _ _ | assumption | refine nw_more ?_ _ _ | refine nw_alloc ?_ _ | refine nw_drew ?_ | refine nw_drewN ?_ _ | refine nw_set ?_ (by first | (simp; done) | (simp; omega) | omega) _)))) hgrow)
          have HBX' := Lib.hid (((HBX.out.mre n1 es1).alloc (Obj.cells #[.int .i64 cj, .string lo', .string hi', .bool top'] 107)).grown hgrow (OwnP.not HOW.out HBX.out (by decide)))
          have HB7' := Lib.hid (((HB7.out.mre n1 es1).alloc (Obj.cells #[.int .i64 cj, .string lo', .string hi', .bool top'] 107)).grown hgrow HRN.out)
          have HB8' := Lib.hid (((HB8.out.mre n1 es1).alloc (Obj.cells #[.int .i64 cj, .string lo', .string hi', .bool top'] 107)).grown hgrow (OwnP.not HOW.out HB8.out (by decide)))
          have HRN' : Hid ((Value.slice (some ⟨g', 0, none⟩) (d.length + 1) cap').ownBlock ≠ some _) := Lib.hid (fun e => by
            simp only [Value.ownBlock, Option.some.injEq] at e
            rcases hlies with h1 | h1
            · exact HRN.out (by rw [h1, e])
            · have := hl7.out; omega)
          have hdl2 : (d ++ [(cj, kidBd ks pb j)]).length ≤ k * 5 + (j + 1) := by simp; omega
          have HT4 : Hid ((d ++ [(cj, kidBd ks pb j)]) ++ (kidsB pb.2 (kidBd ks pb (j + 1)).1 (cs.drop (j + 1)) (ks.drop (j + 1)) ++ belowB t (l.drop (k + 1))) = belowB t l) := Lib.hid (by
            have := HT3.out; rw [List.append_assoc]; exact this)
          clear hown' hgrow hlies hd1 hd2 hd3 HOW HRN HB HBX HB7 HB8 c71 c72 c73 c80 hl7 hl8 hccW hcbL HT3
          go_wp2
          go_roundg (cs.length + 1 - j - 1)
          case measure => omega
          case rel => exact ⟨j + 1, _, by omega, by omega, by go_num, hdl2, HT4, HOW', HRN', HB', HBX', HB7', HB8'⟩
        · have e : j = cs.length := by omega
          have HT3 : Hid (d ++ belowB t (l.drop (k + 1)) = belowB t l) := Lib.hid (by
            have h := HT2.out
            rw [e, List.drop_length] at h
            cases hks : ks.drop cs.length with
            | nil => rw [hks, kidsB] at h; exact h
            | cons a b => rw [hks, kidsB] at h; exact h)
          clear HT2 e
          go_wp2
          go_roundg (l.length + 1 - k - 1)
          case measure => omega
          case rel => exact ⟨k + 1, d, by omega, by omega, by go_num, by omega, HT3, HOW, HB, HBX⟩
    · have e : k = l.length := by omega
      have HE : Hid (c = belowB t l) := Lib.hid (by have := HT.out; rw [e, List.drop_length, belowB, List.append_nil] at this; exact this)
      clear e HT
      go_wp2
      go_ret
      exact ⟨_, rfl, by rw [← HE.out]; exact HOW.out, HB.out⟩
end Go.Proofs.YtaophiknldkfdaaGreatDoor
