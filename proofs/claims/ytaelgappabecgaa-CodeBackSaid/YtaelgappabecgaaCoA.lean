/- Contracts: a sink's functions. No condition. -/
import Derived.Test.YtaelgappabecgaaCoMem
import Derived.Test.YtaelgappabecgaaCoPlain
import Derived.WalkKit
import Derived.WalkSpells
import Derived.WalkLawsBesides
import Derived.Deep.RegionHeld3
namespace Go.Proofs.Ytaelgappabecgaa
open Go.RowKit

theorem step_append_own {P : Program} {w : World} {ops : Array Oper} {o : Oper} {a : Act} {K : Act → World → Prop} {Q : Exit → Act → World → Prop} {E : Prop} (hgd : o.guard = none) (s x : Operand) (t : TypeId)
    (ho : o.op = .call { callee := .builtin .append, args := #[s, x], argTypes := #[t, t] })
    (base : Nat) (e : TypeId) (i : TypeInfo) (z : Value) (size bytes : Nat) (ht : P.underlying t = some (.slice e)) (hi : P.info? e = some i) (hz : i.zero = some z)
    (hsize : i.size = size) (hby : i.bytes = bytes) (hzs : z.cells.size = size) (hsz : 0 < size)
    (v : Value) (n : Nat) (xs : List Value) (hs : a.eval s = v) (hown : w.ownsRow base e size v n xs)
    (ad : Addr) (m c : Nat) (news : List Value) (hx : a.eval x = .slice (some ad) m c) (hl : news.length = m * size) (hnews : ∀ j u, news[j]? = some u → w.cell? (ad.add j) = some u) (h1 : ∀ u ∈ news, u.oneCell' = true)
    (h63 : n + m ≤ maxLen) (hbytes : (n + m) * bytes ≤ 140737488355328) (hbase : base ≤ w.heap.size)
    (h : ∀ v' w', w'.ownsRow base e size v' (n + m) (xs ++ news) → w.grownBy w' v.ownBlock → K (a.put o.dst v') w') :
    if Region.wanted o (yielded ops a.tmps) = true then Oper.wp P o a w K Q else E := by
  have hw : Region.wanted o (yielded ops a.tmps) = true := by simp [Region.wanted, hgd]
  rw [if_pos hw]
  exact wp_append_own w s x t ho base e i z size bytes ht hi hz hsize hby hzs hsz v n xs hs hown ad m c news hx hl hnews h1 h63 hbytes hbase fun v' w' h2 h3 _ => h v' w' h2 h3

theorem slice_own {w : World} {B : Nat} {e : TypeId} {s : Nat} {v : Value} {n : Nat} {xs : List Value} (h : w.ownsRow B e s v n xs) (hn : 0 < n) : ∃ q qc, v = .slice q n qc := by
  rcases h.2 with ⟨-, h0⟩ | ⟨g, cap, cur, rfl, -⟩
  · omega
  · exact ⟨_, _, rfl⟩
/-- What a sink's call leaves. -/
def SnkOut (B b : Nat) (w : World) (l : List UInt8) (e : Ending) (w' : World) : Prop := ∃ u', e = .returned (.tuple #[]) ∧ Snk B w' b u' l ∧ KpS B w w'
set_option maxRecDepth 100000 in
set_option maxHeartbeats 4000000 in
theorem sinkNumber_any (B b : Nat) (w : World) (u : Value) (l : List UInt8) (n k : Nat) (hn : n ≤ 1152921504606846976) (hk : k ≤ 4) (h : Snk B w b u l) (hl : l.length ≤ 100000) (hB : B ≤ w.heap.size) :
    Calls Try.prog 31 #[.pointer (some ⟨b, 0, none⟩), .int .i64 n, .int .i64 k] w fun e w' => SnkOut B b w (l ++ encN n k) e w' := by
  obtain ⟨i0, hi, hz0, hz1, hz2⟩ := info_parts info_u8
  have HI := Lib.hid hi
  have HS0 := Lib.hid h
  clear hi h
  go_enter Try.func31, Try.ntmps31
  go_wp2
  go_loopg [6] k (fun g i wr => ∃ (m : List UInt8) (u' : Value), g ≤ k ∧ i = .int .i64 ((g : Int) - 1) ∧ m ++ encN n g = encN n k ∧ m.length ≤ 4 ∧ Hid (Snk B wr b u' (l ++ m)) ∧ Hid (KpS B w wr))
  case atStart => exact ⟨[], u, Nat.le_refl _, by go_num, rfl, by simp, by rw [List.append_nil]; exact HS0, Lib.hid (KpS.refl _ _)⟩
  case round =>
    cases gk with
    | zero =>
      obtain ⟨m, u', hgk, rfl, hm, hml, HS, HK⟩ := hrel
      go_wp2
      refine bodyPost_end (v := .tuple #[]) (by simp [results, Try.results31, go_sem]) rfl ⟨u', rfl, ?_, HK.out⟩
      rw [← hm, encN, List.append_nil]
      exact HS.out
    | succ g =>
      obtain ⟨m, u', hgk, hs6, hm, hml, HS, HK⟩ := hrel
      rw [show ((g + 1 : Nat) : Int) - 1 = (g : Int) by omega] at hs6
      subst hs6
      have c0 := HS.out.blk.cell 0
      have f0 := HS.out.blk.free 0
      have hlt : Lt b wr.heap.size := HS.out.blk.lt
      simp only [List.getElem?_toArray, List.getElem?_cons_zero] at c0
      have hw8 : IntKind.i64.wrap (8 * (g : Int)) = 8 * (g : Int) := IntWalk.i64_in _ (by omega)
      have hcell : Lib.byteCells [UInt8.ofNat (n / 256 ^ g)] = [Value.int .u8 (IntKind.u8.wrap ((n : Int) / 2 ^ (8 * (g : Int)).toNat))] := by
        have e1 : (8 * (g : Int)).toNat = 8 * g := by omega
        have e2 : (2 : Nat) ^ (8 * g) = 256 ^ g := Nat.pow_mul 2 8 g
        have e3 : (n : Int) / 2 ^ (8 * g) = ((n / 256 ^ g : Nat) : Int) := by rw [← e2]; push_cast; rfl
        simp only [Lib.byteCells, List.map_cons, List.map_nil, e1, e3]
        rw [UInt8.toNat_ofNat']
        rfl
      have hsz1 : B ≤ wr.heap.size := by have := HK.out.size; omega
      have HG : Hid (∀ X Y v1 w1, Below wr.heap.size wr X → w1.ownsRow B 5 1 v1 ((l ++ m).length + 1) (Lib.byteCells (l ++ m) ++ [Value.int .u8 (IntKind.u8.wrap ((n : Int) / 2 ^ (8 * (g : Int)).toNat))]) → X.grownBy w1 u'.ownBlock → Y = w1.setCell ⟨b, 0, none⟩ v1 → Snk B Y b v1 (l ++ (m ++ [UInt8.ofNat (n / 256 ^ g)])) ∧ KpS B w Y) := Lib.hid (by
        intro X Y v1 w1 hX ho hg hY
        subst hY
        rw [← hcell] at ho
        have h1 := Snk.put (Snk.below HS.out hX) (OwnB.snoc ho (by simp)) hg
        rw [List.append_assoc] at h1
        exact ⟨h1.1, (HK.out.trans (KpS.of hX)).trans h1.2⟩)
      have HL : Hid (∀ (X w1 : World) v1, Below wr.heap.size wr X → w1.ownsRow B 5 1 v1 ((l ++ m).length + 1) (Lib.byteCells (l ++ m) ++ [Value.int .u8 (IntKind.u8.wrap ((n : Int) / 2 ^ (8 * (g : Int)).toNat))]) → X.grownBy w1 u'.ownBlock → w1.cell? ⟨b, 0, none⟩ = some u' ∧ w1.frozen? ⟨b, 0, none⟩ = false ∧ Lt b w1.heap.size) := Lib.hid (by
        intro X w1 v1 hX ho hg
        have hb1 := (HS.out.blk.below hX).grown hg (not_own HS.out.own HS.out.blk (by decide))
        exact ⟨hb1.cell 0, hb1.free 0, hb1.lt⟩)
      clear hcell
      go_wp2_with fail
      go_region_law (refine step_append_own rfl (.tmp 17) (.tmp 23) _ rfl B 5 i0 (.int .u8 0) 1 1 Try.underlying41 HI.out hz0 hz1 hz2 rfl (by decide) _ (l ++ m).length (Lib.byteCells (l ++ m)) rfl (own_below HS.out.own (by (repeat (first | exact Below.refl _ _ | assumption | refine nw_more ?_ _ _ | refine nw_alloc ?_ _ | refine nw_drew ?_ | refine nw_drewN ?_ _ | refine nw_set ?_ (by first | (simp; done) | (simp; omega) | omega) _)))) ⟨_, 0, none⟩ 1 1 [.int .u8 (IntKind.u8.wrap ((n : Int) / 2 ^ (8 * (g : Int)).toNat))] rfl rfl (news1 (by simp [go_sem])) (news1_one rfl) (by unfold maxLen; simp; omega) (by simp; omega) (by first | (simp; done) | (simp; omega) | omega) ?_; intro v1 w1 hown1 hgrow1; obtain ⟨q1, qc1, rfl⟩ := slice_own hown1 (Nat.succ_pos _); obtain ⟨x0, xf, hlt1⟩ := HL.out _ w1 _ (by (repeat (first | exact Below.refl _ _ | assumption | refine nw_more ?_ _ _ | refine nw_alloc ?_ _ | refine nw_drew ?_ | refine nw_drewN ?_ _ | refine nw_set ?_ (by first | (simp; done) | (simp; omega) | omega) _))) hown1 hgrow1; have HG1 := Lib.hid (fun Y => HG.out _ Y _ w1 (by (repeat (first | exact Below.refl _ _ | assumption | refine nw_more ?_ _ _ | refine nw_alloc ?_ _ | refine nw_drew ?_ | refine nw_drewN ?_ _ | refine nw_set ?_ (by first | (simp; done) | (simp; omega) | omega) _))) hown1 hgrow1); clear hown1 hgrow1)
      all_goals
        go_wp2
        go_roundg g
        case measure => omega
        case rel =>
          obtain ⟨hs1, hk1⟩ := HG1.out _ rfl
          simp only [List.length_append] at hs1 hk1
          refine ⟨m ++ [UInt8.ofNat (n / 256 ^ g)], _, by omega, by go_num, ?_, ?_, Lib.hid hs1, Lib.hid hk1⟩
          · rw [← hm, encN]; simp
          · have := congrArg List.length hm
            simp only [List.length_append, encN_length, List.length_cons, List.length_nil] at this ⊢
            omega
end Go.Proofs.Ytaelgappabecgaa
