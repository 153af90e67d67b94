/- Rings of waits; an append as one step of a region that draws. No condition. -/
import Derived.Test.YthkpeddgcglpcaaWaitJ
namespace Go.Proofs.Ythkpeddgcglpcaa
open Go.RowKit

def ringTake (n k : Nat) : List Wt := (List.range k).map fun (i : Nat) => ((i : Int), [(((i + 1) % n : Nat) : Int)])
def ringL (n : Nat) : List Wt := ringTake n n
def ageN (n b i : Nat) : Nat := 1 + (i + b) % n
def ageTake (n b k : Nat) : List Int := (List.range k).map fun (i : Nat) => ((ageN n b i : Nat) : Int)
def ringAges (n b : Nat) : List Int := ageTake n b n
def youngN (n b : Nat) : Nat → Nat
  | 0 => 0
  | k + 1 => if ageN n b (youngN n b k) < ageN n b k then k else youngN n b k
def ringCut (n k : Nat) : List Wt := (ringL n).eraseIdx k
theorem ring_may : ∀ r, r < 5 → mayB (ringL (r + 2)) = true := by decide +kernel
theorem ring_pos : ∀ r, r < 5 → ∀ b, b < 7 → (∀ x ∈ ringAges (r + 2) b, 0 < x) ∧ (ringAges (r + 2) b).Nodup := by decide +kernel
theorem ring_ages (r : Nat) (hr : r < 5) (b : Nat) (hb : b < 7) : agesB (ringAges (r + 2) b) = true := agesB_of (ring_pos r hr b hb).1 (ring_pos r hr b hb).2
theorem ring_all : ∀ r, r < 5 → ∀ b, b < 7 → allAges (ringAges (r + 2) b) (ringL (r + 2)) = true := by decide +kernel
theorem ring_circle : ∀ r, r < 5 → ∀ o, o < r + 2 → (circleL (ringL (r + 2)) (o : Nat)).length = r + 2 := by decide +kernel
theorem ring_young : ∀ r, r < 5 → ∀ b, b < 7 → ∀ o, o < r + 2 → youngL (ringAges (r + 2) b) (circleL (ringL (r + 2)) (o : Nat)) = ((youngN (r + 2) b (r + 2) : Nat) : Int) := by decide +kernel
theorem cut_may : ∀ r, r < 5 → ∀ k, k < r + 2 → mayB (ringCut (r + 2) k) = true := by decide +kernel
theorem cut_all : ∀ r, r < 5 → ∀ b, b < 7 → ∀ k, k < r + 2 → allAges (ringAges (r + 2) b) (ringCut (r + 2) k) = true := by decide +kernel
theorem cut_circle : ∀ r, r < 5 → ∀ k, k < r + 2 → ∀ o, o < r + 2 → circleL (ringCut (r + 2) k) (o : Nat) = [] := by decide +kernel
theorem young_lt (n b k : Nat) : youngN n b k ≤ k := by
  induction k with
  | zero => exact Nat.le_refl _
  | succ k ih => rw [youngN]; split <;> omega
theorem ring_snoc (n k : Nat) : ringTake n (k + 1) = ringTake n k ++ [((k : Int), [(((k + 1) % n : Nat) : Int)])] := by
  unfold ringTake; rw [List.range_succ, List.map_append]; rfl
theorem age_snoc (n b k : Nat) : ageTake n b (k + 1) = ageTake n b k ++ [((ageN n b k : Nat) : Int)] := by
  unfold ageTake; rw [List.range_succ, List.map_append]; rfl
theorem age_len (n b k : Nat) : (ageTake n b k).length = k := by simp [ageTake]
theorem age_get (n b k i : Nat) (h : i < k) : (ageTake n b k)[i]? = some ((ageN n b i : Nat) : Int) := by
  simp [ageTake, List.getElem?_map, List.getElem?_range h]

/-- No wait's For lies in the block of u. -/
def Apart (u : Value) (P : List Wv) : Prop := ∀ x ∈ P, ∀ g, u.ownBlock = some g → x.v.ownBlock ≠ some g
theorem Apart.snoc {u : Value} {P : List Wv} {x : Wv} (h : Apart u P) (hx : ∀ g, u.ownBlock = some g → x.v.ownBlock ≠ some g) : Apart u (P ++ [x]) := by
  intro y hy
  rcases List.mem_append.1 hy with hy | hy
  · exact h y hy
  · simp at hy; rw [hy]; exact hx
theorem ForsOwn.grownI {B : Nat} {w w1 : World} {u : Value} {P : List Wv} (hf : ForsOwn B w P) (ha : Apart u P) (hg : w.grownBy w1 u.ownBlock) : ForsOwn B w1 P := by
  intro x hx
  refine (hf x hx).kept hg ?_
  cases hb : x.v.ownBlock with
  | none => exact .inl rfl
  | some g => exact .inr fun e => ha x hx g e.symm hb
theorem Apart.next {B : Nat} {w : World} {u : Value} {P : List Wv} {g n cap H : Nat} (hf : ForsOwn B w P) (ha : Apart u P) (hl : u.ownBlock = some g ∨ g = H) (hH : w.heap.size ≤ H) : Apart (.slice (some ⟨g, 0, none⟩) n cap) P := by
  intro x hx g' hg' hb
  simp only [ownBlock_mk, Option.some.injEq] at hg'
  subst hg'
  rcases hl with hl | hl
  · exact ha x hx _ hl hb
  · have := (hf x hx).lt _ hb; omega
theorem OwnW.grownI {B : Nat} {w w1 : World} {u v : Value} {P : List Wv} {l : List Int} (ho : OwnW B w v P) (hu : OwnI B w u l) (hg : w.grownBy w1 u.ownBlock) : OwnW B w1 v P :=
  ho.kept hg (own_apart ho hu (by decide))
theorem ring_for (n k : Nat) : ∀ x ∈ ringTake n k, 0 < x.2.length ∧ x.2.length ≤ 1000 := by
  intro x hx; obtain ⟨i, -, rfl⟩ := List.mem_map.1 hx; exact ⟨by simp, by simp⟩

theorem cells_sub {w : World} {qb qo : Nat} {P : List Wv} (h : ∀ j, j < P.length → w.cell? ⟨qb, qo + j * 2, none⟩ = some (.int .i64 (P.getD j default).o) ∧ w.cell? ⟨qb, qo + j * 2 + 1, none⟩ = some (P.getD j default).v) (a m : Nat) :
    ∀ (j : Nat) (u : Value), (wvCells ((P.drop a).take m))[j]? = some u → w.cell? ((⟨qb, qo + a * 2, none⟩ : Addr).add j) = some u := by
  intro j u hj
  rw [add_none]
  have hlt := (List.getElem?_eq_some_iff.1 hj).1
  rw [wvCells_length] at hlt
  have hl2 : ((P.drop a).take m).length ≤ P.length - a := by rw [List.length_take, List.length_drop]; omega
  have hg : ∀ i, i < ((P.drop a).take m).length → ((P.drop a).take m).getD i default = P.getD (a + i) default := by
    intro i hi
    have h1 : i < m := by rw [List.length_take] at hi; omega
    simp [List.getD, List.getElem?_take, h1]
  rcases Nat.mod_two_eq_zero_or_one j with h0 | h0
  · obtain ⟨i, rfl⟩ : ∃ i, j = i * 2 := ⟨j / 2, by omega⟩
    have hi : i < ((P.drop a).take m).length := by omega
    have hp := (h (a + i) (by omega)).1
    rw [(wvCells_at _ i hi).1, hg i hi] at hj
    rw [show qo + a * 2 + i * 2 = qo + (a + i) * 2 by omega, hp]; exact hj
  · obtain ⟨i, rfl⟩ : ∃ i, j = i * 2 + 1 := ⟨j / 2, by omega⟩
    have hi : i < ((P.drop a).take m).length := by omega
    have hp := (h (a + i) (by omega)).2
    rw [(wvCells_at _ i hi).2, hg i hi] at hj
    rw [show qo + a * 2 + (i * 2 + 1) = qo + (a + i) * 2 + 1 by omega, hp]; exact hj
theorem wv_one {w : World} {P : List Wv} (h : ∀ x ∈ P, IntsAt w x.v x.f) : ∀ u ∈ wvCells P, u.oneCell' = true := by
  induction P with
  | nil => intro u hu; cases hu
  | cons x r ih =>
    intro u hu
    simp only [wvCells, List.mem_cons] at hu
    rcases hu with rfl | rfl | hu
    · rfl
    · obtain ⟨p, c, e⟩ := (h x (List.mem_cons_self ..)).slice; rw [e]; rfl
    · exact ih (fun y hy => h y (List.mem_cons_of_mem _ hy)) u hu

theorem made0 (w : World) : (w.alloc (Obj.cells #[] 41)).ownsRow w.heap.size 41 2 (.slice (some ⟨w.heap.size, 0, none⟩) 0 0) 0 [] :=
  World.ownsRow_made w #[] 0 (Nat.le_refl _) (Nat.zero_le _) (by simp)
theorem cut_own {w : World} {B : Nat} {v : Value} {P : List Wv} {c : Nat} (hc : c < P.length)
    (h : w.ownsRow B 41 2 v (0 + c + (P.length - (c + 1))) ([] ++ wvCells ((P.drop 0).take c) ++ wvCells ((P.drop (c + 1)).take (P.length - (c + 1))))) : OwnW B w v (P.eraseIdx c) := by
  unfold OwnW
  have e : P.eraseIdx c = (P.drop 0).take c ++ (P.drop (c + 1)).take (P.length - (c + 1)) := by
    rw [List.eraseIdx_eq_take_drop_succ, List.drop_zero, List.take_of_length_le (l := P.drop (c + 1)) (i := P.length - (c + 1)) (by rw [List.length_drop]; omega)]
  have hl : (P.eraseIdx c).length = 0 + c + (P.length - (c + 1)) := by rw [List.length_eraseIdx_of_lt hc]; omega
  rw [hl, e, wvCells_append]
  simpa using h
theorem cut_own0 {w : World} {B : Nat} {v : Value} {P : List Wv} {c : Nat} (hc : P.length = c + 1)
    (h : w.ownsRow B 41 2 v (0 + c + 0) ([] ++ wvCells ((P.drop 0).take c) ++ [])) : OwnW B w v (P.eraseIdx c) := by
  refine cut_own (by omega) ?_
  rw [hc, Nat.sub_self, List.take_zero]
  exact h
theorem cut_pl {P : List Wv} {l : List Wt} (h : P.map Wv.pl = l) (c : Nat) : (P.eraseIdx c).map Wv.pl = l.eraseIdx c := by
  rw [← h, List.eraseIdx_eq_take_drop_succ, List.eraseIdx_eq_take_drop_succ, List.map_append, List.map_take, List.map_drop]
theorem cut_sub {P : List Wv} {c : Nat} : ∀ x ∈ P.eraseIdx c, x ∈ P := fun x hx => List.mem_of_mem_eraseIdx hx
theorem part_sub {P : List Wv} {a m : Nat} : ∀ x ∈ (P.drop a).take m, x ∈ P := fun x hx => List.mem_of_mem_drop (List.mem_of_mem_take hx)
theorem part_len {P : List Wv} {a m : Nat} (h : a + m ≤ P.length) : (wvCells ((P.drop a).take m)).length = m * 2 := by
  rw [wvCells_length, List.length_take, List.length_drop]; omega

variable {P : Program} {w : World}
/-- An append to a row of the call's own, as one step of a region that draws its order. -/
theorem step_append_own {ops : Array Oper} {o : Oper} {a : Act} {K : Act → World → Prop} {Q : Exit → Act → World → Prop} {E : Prop} (hgd : o.guard = none) (s x : Operand) (t : TypeId)
    (ho : o.op = .call { callee := .builtin .append, args := #[s, x], argTypes := #[t, t] })
    (base : Nat) (e : TypeId) (i : TypeInfo) (z : Value) (size bytes : Nat) (ht : P.underlying t = some (.slice e)) (hi : P.info? e = some i) (hz : i.zero = some z)
    (hsize : i.size = size) (hby : i.bytes = bytes) (hzs : z.cells.size = size) (hsz : 0 < size)
    (v : Value) (n : Nat) (xs : List Value) (hs : a.eval s = v) (hown : w.ownsRow base e size v n xs)
    (ad : Addr) (m c : Nat) (news : List Value) (hx : a.eval x = .slice (some ad) m c) (hl : news.length = m * size) (hnews : ∀ j u, news[j]? = some u → w.cell? (ad.add j) = some u) (h1 : ∀ u ∈ news, u.oneCell' = true)
    (h63 : n + m ≤ maxLen) (hbytes : (n + m) * bytes ≤ 140737488355328) (hbase : base ≤ w.heap.size)
    (h : ∀ v' w', w'.ownsRow base e size v' (n + m) (xs ++ news) → w.grownBy w' v.ownBlock → K (a.put o.dst v') w') :
    if Region.wanted o (yielded ops a.tmps) = true then Oper.wp P o a w K Q else E := by
  have hw : Region.wanted o (yielded ops a.tmps) = true := by simp [Region.wanted, hgd]
  rw [if_pos hw]
  exact wp_append_own w s x t ho base e i z size bytes ht hi hz hsize hby hzs hsz v n xs hs hown ad m c news hx hl hnews h1 h63 hbytes hbase fun v' w' h2 h3 _ => h v' w' h2 h3
end Go.Proofs.Ythkpeddgcglpcaa
