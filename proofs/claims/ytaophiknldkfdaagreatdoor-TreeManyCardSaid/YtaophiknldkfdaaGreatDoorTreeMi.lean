/- The changes of a tree, as functions on lists: no program, no memory. -/
import Derived.Test.YtaophiknldkfdaaGreatDoorTreeI
namespace Go.Proofs.YtaophiknldkfdaaGreatDoor

/-- A tree that is being changed; adv: its first free number is taken. -/
structure St (α : Type) where
  nodes : List (Nd α)
  root : Nat
  free : List Int
  adv : Bool

section
variable {α : Type} (K : Ks α)
def insAt {β : Type} (l : List β) (i : Nat) (x : β) : List β := l.take i ++ x :: l.drop i
def delAt {β : Type} (l : List β) (i : Nat) : List β := l.take i ++ l.drop (i + 1)
def insI (n : Int) : List Int → List Int
  | [] => [n]
  | m :: r => if n ≤ m then n :: m :: r else m :: insI n r
def sortedB : List Int → Bool
  | [] => true
  | [_] => true
  | a :: b :: r => decide (a ≤ b) && sortedB (b :: r)
def halvesP (n : Nd α) : Option (Nd α × α × Nd α) :=
  match n.keys[n.keys.length / 2]? with
  | none => none
  | some b =>
    if n.keys.length ≤ 1000 then
      match n.leaf with
      | true => if n.rows.length = n.keys.length then some (⟨n.keys.take (n.keys.length / 2), n.rows.take (n.keys.length / 2), [], true⟩, b, ⟨n.keys.drop (n.keys.length / 2), n.rows.drop (n.keys.length / 2), [], true⟩) else none
      | false => if n.kids.length = n.keys.length + 1 ∧ 3 ≤ n.keys.length then some (⟨n.keys.take (n.keys.length / 2), [], n.kids.take (n.keys.length / 2 + 1), false⟩, b, ⟨n.keys.drop (n.keys.length / 2 + 1), [], n.kids.drop (n.keys.length / 2 + 1), false⟩) else none
    else none
def laidP (S : St α) (n : Nd α) : Option (St α × Nat) :=
  if S.nodes.length < 1000 ∧ S.free.length < 1000 then
    match S.adv, S.free with
    | true, _ => none
    | false, [] => some (⟨S.nodes ++ [n], S.root, [], false⟩, S.nodes.length)
    | false, f :: r => if 0 ≤ f ∧ f < S.nodes.length then some (⟨S.nodes.set f.toNat n, S.root, f :: r, true⟩, f.toNat) else none
  else none
/-- The split's last step: the parent's lists. -/
def parentP (S : St α) (i k : Nat) (b : α) (m : Nat) : Option (St α) :=
  match S.nodes[i]? with
  | none => none
  | some z => if k ≤ z.keys.length ∧ k + 1 ≤ z.kids.length ∧ z.keys.length < 999 ∧ z.kids.length < 999 then some ⟨S.nodes.set i ⟨insAt z.keys k b, z.rows, insAt z.kids (k + 1) (m : Int), z.leaf⟩, S.root, S.free, S.adv⟩ else none
def kidP (nodes : List (Nd α)) (i k : Nat) : Option Nat :=
  match nodes[i]? with
  | none => none
  | some x => match x.kids[k]? with
    | none => none
    | some c => if 0 ≤ c ∧ c < nodes.length then some c.toNat else none
def splitP (S : St α) (i k : Nat) : Option (St α) :=
  match kidP S.nodes i k with
  | none => none
  | some j => match S.nodes[j]? with
    | none => none
    | some y => match halvesP y with
      | none => none
      | some (lo, b, hi) => match laidP ⟨S.nodes.set j lo, S.root, S.free, S.adv⟩ hi with
        | none => none
        | some (S2, m) => parentP S2 i k b m
def freeP (S : St α) (n : Nat) : Option (St α) :=
  if S.adv = false ∧ n < S.nodes.length ∧ sortedB S.free = true ∧ S.free.length < 999 then some ⟨S.nodes.set n ⟨[], [], [], false⟩, S.root, insI n S.free, false⟩ else none
def joinedP (lo : Nd α) (b : α) (hi : Nd α) : Nd α := ⟨(if lo.leaf then lo.keys else lo.keys ++ [b]) ++ hi.keys, lo.rows ++ hi.rows, lo.kids ++ hi.kids, lo.leaf⟩
def overN (n : Nd α) : Bool := decide (4 < n.keys.length)
/-- The join's middle: two kids are one, the parent's lists shorter. -/
def joinMid (S : St α) (i k : Nat) : Option (St α × Nat × Nat) :=
  match S.nodes[i]?, kidP S.nodes i k, kidP S.nodes i (k + 1) with
  | some x, some c, some d => match x.keys[k]?, S.nodes[c]?, S.nodes[d]? with
    | some b, some lo, some hi => if c ≠ i ∧ d ≠ i ∧ c ≠ d ∧ lo.keys.length + hi.keys.length < 999 ∧ lo.rows.length + hi.rows.length < 999 ∧ lo.kids.length + hi.kids.length < 999 then
        some (⟨(S.nodes.set c (joinedP lo b hi)).set i ⟨delAt x.keys k, x.rows, delAt x.kids (k + 1), x.leaf⟩, S.root, S.free, S.adv⟩, c, d) else none
    | _, _, _ => none
  | _, _, _ => none
def joinP (S : St α) (i k : Nat) : Option (St α) :=
  match joinMid S i (k - 1) with
  | none => none
  | some (S1, c, d) => match freeP S1 d with
    | none => none
    | some S2 => match S2.nodes[c]? with
      | none => none
      | some y => if overN y then splitP S2 i (k - 1) else some S2
/-- From the leaf up, along the way turned round. -/
def splitsP (S : St α) : List (Nat × Nat) → Option (St α)
  | [] => some S
  | p :: r => match kidP S.nodes p.1 p.2 with
    | none => none
    | some j => match S.nodes[j]? with
      | none => none
      | some y => if overN y then (match splitP S p.1 p.2 with
        | none => none
        | some S2 => splitsP S2 r) else splitsP S r
def splitUpP (S : St α) (path : List (Nat × Nat)) : Option (St α) :=
  match splitsP S path.reverse with
  | none => none
  | some S2 => match S2.nodes[S2.root]? with
    | none => none
    | some y => if overN y then (match laidP S2 ⟨[], [], [(S2.root : Int)], false⟩ with
      | none => none
      | some (S3, m) => splitP ⟨S3.nodes, m, S3.free, S3.adv⟩ m 0) else some S2
def joinsP (S : St α) : List (Nat × Nat) → Option (St α)
  | [] => some S
  | p :: r => match kidP S.nodes p.1 p.2 with
    | none => none
    | some j => match S.nodes[j]? with
      | none => none
      | some y => if decide (y.keys.length < 2) then (match joinP S p.1 p.2 with
        | none => none
        | some S2 => joinsP S2 r) else joinsP S r
def joinUpP (S : St α) (path : List (Nat × Nat)) : Option (St α) :=
  match joinsP S path.reverse with
  | none => none
  | some S2 => match S2.nodes[S2.root]? with
    | none => none
    | some y => if decide (y.kids.length = 1) then (match kidP S2.nodes S2.root 0 with
      | none => none
      | some c => freeP ⟨S2.nodes, c, S2.free, S2.adv⟩ S2.root) else some S2
/-- The tree that is told. -/
def St.done (S : St α) : Tr α := ⟨S.nodes, S.root, if S.adv then S.free.tail else S.free⟩
def leafP (t : Tr α) (k : α) : Option (List (Nat × Nat) × Nat × Nd α) :=
  if mayT K t && K.ok k && decide (0 ≤ t.root) then
    match wayO K t k 100 t.root.toNat with
    | none => none
    | some (path, leaf) => match t.nodes[leaf]? with
      | none => none
      | some x => if x.leaf && decide (x.rows.length = x.keys.length) && riseB K x.keys then some (path, leaf, x) else none
  else none
def findP (t : Tr α) (k : α) : Option Int := match leafP K t k with
  | none => none
  | some (_, _, x) => if isB K k x.keys then x.rows[posB K k x.keys]? else none
def addP (t : Tr α) (k : α) (row : Int) : Option (Tr α) := match leafP K t k with
  | none => none
  | some (path, leaf, x) => if rowB row && !isB K k x.keys then
      match splitUpP ⟨t.nodes.set leaf ⟨insAt x.keys (posB K k x.keys) k, insAt x.rows (posB K k x.keys) row, x.kids, x.leaf⟩, t.root.toNat, t.free, false⟩ path with
      | none => none
      | some S => if S.nodes.length ≤ 200 then some S.done else none
    else none
def cutP (t : Tr α) (k : α) : Option (Tr α) := match leafP K t k with
  | none => none
  | some (path, leaf, x) => if isB K k x.keys then
      match joinUpP ⟨t.nodes.set leaf ⟨delAt x.keys (posB K k x.keys), delAt x.rows (posB K k x.keys), x.kids, x.leaf⟩, t.root.toNat, t.free, false⟩ path with
      | none => none
      | some S => some S.done
    else none
def newP : Tr α := ⟨[⟨[], [], [], true⟩], 0, []⟩
end
end Go.Proofs.YtaophiknldkfdaaGreatDoor
/- The law's own reading of a tree, and what the laws do, as functions on lists: no program, no memory. -/
namespace Go.Proofs.YtaophiknldkfdaaGreatDoor

/-- What has been gone through: who was seen, how deep the leaves are (0: not known), the rows. -/
structure Wk (α : Type) where
  seen : List Bool
  deep : Nat
  rows : List (α × Int)

section
variable {α : Type} (K : Ks α)
def leafW (s : Wk α) (x : Nd α) (d : Nat) : Option (Wk α) :=
  if (s.deep = 0 ∨ s.deep = d) ∧ x.kids.length = 0 ∧ x.rows.length = x.keys.length ∧ areKeysB K x.keys = true ∧ areRowsB x.rows = true then some ⟨s.seen, d, s.rows ++ x.keys.zip x.rows⟩ else none
def fitsW (t : Tr α) (s : Wk α) (n : Int) (b : Bd α) (d : Nat) : Option (Nd α) :=
  if s.seen.getD n.toNat true = false ∧ 0 ≤ n ∧ t.free.contains n = false then
    match t.nodes[n.toNat]? with
    | none => none
    | some x => if x.keys.length ≤ 4 ∧ (2 ≤ x.keys.length ∨ d = 1) ∧ riseB K x.keys = true ∧ areInB K b x.keys = true then some x else none
  else none
def foldW (f : Wk α → Int → Bd α → Option (Wk α)) (s : Wk α) : List (Int × Bd α) → Option (Wk α)
  | [] => some s
  | p :: r => match f s p.1 p.2 with
    | none => none
    | some s2 => foldW f s2 r
def nodeW (t : Tr α) : Nat → Wk α → Int → Bd α → Nat → Option (Wk α)
  | 0, _, _, _, _ => none
  | f + 1, s, n, b, d => match fitsW K t s n b d with
    | none => none
    | some x => match x.leaf with
      | true => leafW K ⟨s.seen.set n.toNat true, s.deep, s.rows⟩ x d
      | false => if x.rows.length = 0 ∧ 0 < x.keys.length ∧ x.kids.length = x.keys.length + 1 then
          foldW (fun s2 m b2 => nodeW t f s2 m b2 (d + 1)) ⟨s.seen.set n.toNat true, s.deep, s.rows⟩ (kidsB b.2 b.1 x.kids x.keys) else none
def allSeen (t : Tr α) : Nat → List Bool → Bool
  | _, [] => true
  | i, b :: r => (b || t.free.contains (i : Int)) && allSeen t (i + 1) r
def treeW (t : Tr α) : Option (List (α × Int) × Nat) :=
  if t.nodes.length ≤ 200 ∧ freeFrom t 0 t.free = true then
    match nodeW K t 20 ⟨List.replicate t.nodes.length false, 0, []⟩ t.root (none, none) 1 with
    | none => none
    | some s => if allSeen t 0 s.seen then some (s.rows, s.deep) else none
  else none

def addsP (key : Nat → α) (order : Nat → Nat) : Nat → Nat → Tr α → Option (Tr α)
  | 0, _, t => some t
  | f + 1, i, t => match addP K t (key (order i)) (order i : Int) with
    | none => none
    | some t2 => addsP key order f (i + 1) t2
def cutsP (key : Nat → α) (order : Nat → Nat) : Nat → Nat → Tr α → Option (Tr α)
  | 0, _, t => some t
  | f + 1, i, t => match cutP K t (key (order i)) with
    | none => none
    | some t2 => cutsP key order f (i + 1) t2
/-- Cut one by one: always a tree that may be, with so many rows. -/
def cutsW (key : Nat → α) (order : Nat → Nat) : Nat → Nat → Tr α → Bool
  | 0, _, _ => true
  | f + 1, i, t => match cutP K t (key (order i)) with
    | none => false
    | some t2 => match treeW K t2 with
      | none => false
      | some (rows, _) => decide (rows.length = f) && cutsW key order f (i + 1) t2
def wayAt (f : Nat) (i n : Nat) : Nat := match f with
  | 0 => i
  | 1 => n - 1 - i
  | _ => if i % 2 = 0 then i / 2 else n - 1 - i / 2
def eachP (key : Nat → α) (up down n : Nat) : Bool :=
  match addsP K key (fun i => wayAt up i n) n 0 newP with
  | none => false
  | some t => match treeW K t with
    | none => false
    | some (rows, _) => decide (rows.length = n) && cutsW K key (fun i => wayAt down i n) n 0 t
def countP (t : Tr α) : Option Nat := if mayT K t then some ((t.nodes.map (fun n => n.rows.length)).sum) else none
def deepP (t : Tr α) (k0 : α) : Option Nat := if mayT K t && decide (0 ≤ t.root) then match wayO K t k0 100 t.root.toNat with
  | none => none
  | some (path, _) => some (path.length + 1) else none
def findsP (key : Nat → α) (t : Tr α) : Nat → Nat → Bool
  | 0, _ => true
  | f + 1, i => (match findP K t (key i) with
    | none => false
    | some r => decide (r = i)) && findsP key t f (i + 1)
def manyP (key : Nat → α) (k0 : α) (n by_ : Nat) : Bool :=
  match addsP K key (fun i => if n % by_ = 0 then i else i * by_ % n) n 0 newP with
  | none => false
  | some t => (match countP K t, deepP K t k0 with
    | some c, some d => decide (c = n) && decide (d ≤ 7)
    | _, _ => false) && (findsP K key t n 0 && (match cutsP K key (fun i => wayAt 2 i n) n 0 t with
      | none => false
      | some t2 => match treeW K t2 with
        | none => false
        | some (rows, d) => decide (rows.length = 0) && decide (d = 1)))
end

def b3 (n : Nat) : ByteArray := ⟨#[107, (48 + n / 100).toUInt8, (48 + n / 10 % 10).toUInt8, (48 + n % 10).toUInt8]⟩
def b4 (n : Nat) : ByteArray := ⟨#[107, (48 + n / 1000).toUInt8, (48 + n / 100 % 10).toUInt8, (48 + n / 10 % 10).toUInt8, (48 + n % 10).toUInt8]⟩
end Go.Proofs.YtaophiknldkfdaaGreatDoor
/- What the laws do, as functions on lists, with the bounds that the contracts ask. No condition. -/
namespace Go.Proofs.YtaophiknldkfdaaGreatDoor

section
variable {α : Type} (K : Ks α)
def lensN (n : Nd α) : Bool := decide (n.keys.length ≤ 500) && (decide (n.rows.length ≤ 500) && (decide (n.kids.length ≤ 500) && n.rows.all (fun q => decide (q < 100))))
def okT (t : Tr α) : Bool := decide (t.nodes.length ≤ 500) && (decide (t.free.length ≤ 500) && t.nodes.all lensN)
def addsQ (key : Nat → α) (order : Nat → Nat) : Nat → Nat → Tr α → Option (Tr α)
  | 0, _, t => some t
  | f + 1, i, t => match okT t with
    | false => none
    | true => match addP K t (key (order i)) (order i : Int) with
      | none => none
      | some t2 => match okT t2 with
        | false => none
        | true => addsQ key order f (i + 1) t2
def cutsQ (key : Nat → α) (order : Nat → Nat) : Nat → Nat → Tr α → Bool
  | 0, _, _ => true
  | f + 1, i, t => okT t && match cutP K t (key (order i)) with
    | none => false
    | some t2 => okT t2 && match treeW K t2 with
      | none => false
      | some (rows, _) => decide (rows.length = f) && cutsQ key order f (i + 1) t2
def eachQ (key : Nat → α) (up down n : Nat) : Bool :=
  match addsQ K key (fun i => wayAt up i n) n 0 newP with
  | none => false
  | some t => okT t && match treeW K t with
    | none => false
    | some (rows, _) => decide (rows.length = n) && cutsQ K key (fun i => wayAt down i n) n 0 t
variable {K}
theorem okT_parts {P : List (Nv α)} {r : Int} {F : List Int} (h : okT (Tr.mk (ndsOf P) r F) = true) : P.length ≤ 500 ∧ F.length ≤ 500 ∧ (∀ x ∈ P, x.n.keys.length ≤ 500 ∧ x.n.rows.length ≤ 500 ∧ x.n.kids.length ≤ 500) ∧ (∀ x ∈ P, ∀ q ∈ x.n.rows, q < 100) := by
  unfold okT at h
  simp only [Bool.and_eq_true, decide_eq_true_eq, List.all_eq_true] at h
  obtain ⟨h1, h2, h3⟩ := h
  rw [nds_len] at h1
  have key : ∀ x ∈ P, lensN x.n = true := fun x hx => h3 _ (List.mem_map_of_mem (f := Nv.n) hx)
  unfold lensN at key
  simp only [Bool.and_eq_true, decide_eq_true_eq, List.all_eq_true] at key
  exact ⟨h1, h2, fun x hx => ⟨(key x hx).1, (key x hx).2.1, (key x hx).2.2.1⟩, fun x hx => (key x hx).2.2.2⟩
theorem addsQ_step {key : Nat → α} {order : Nat → Nat} {f i : Nat} {t t' : Tr α} (h : addsQ K key order (f + 1) i t = some t') : okT t = true ∧ ∃ t2, addP K t (key (order i)) (order i : Int) = some t2 ∧ okT t2 = true ∧ addsQ K key order f (i + 1) t2 = some t' := by
  unfold addsQ at h
  split at h
  · cases h
  · rename_i h1
    split at h
    · cases h
    · rename_i t2 h2
      split at h
      · cases h
      · rename_i h3
        exact ⟨h1, t2, h2, h3, h⟩
theorem cutsQ_step {key : Nat → α} {order : Nat → Nat} {f i : Nat} {t : Tr α} (h : cutsQ K key order (f + 1) i t = true) : okT t = true ∧ ∃ t2, cutP K t (key (order i)) = some t2 ∧ okT t2 = true ∧ ∃ rows d, treeW K t2 = some (rows, d) ∧ rows.length = f ∧ cutsQ K key order f (i + 1) t2 = true := by
  unfold cutsQ at h
  rw [Bool.and_eq_true] at h
  obtain ⟨h1, h⟩ := h
  split at h
  · cases h
  · rename_i t2 h2
    rw [Bool.and_eq_true] at h
    obtain ⟨h3, h⟩ := h
    split at h
    · cases h
    · rename_i rows d h4
      simp only [Bool.and_eq_true, decide_eq_true_eq] at h
      exact ⟨h1, t2, h2, h3, rows, d, h4, h.1, h.2⟩
theorem eachQ_parts {key : Nat → α} {up down n : Nat} (h : eachQ K key up down n = true) : ∃ t, addsQ K key (fun i => wayAt up i n) n 0 newP = some t ∧ okT t = true ∧ ∃ rows d, treeW K t = some (rows, d) ∧ rows.length = n ∧ cutsQ K key (fun i => wayAt down i n) n 0 t = true := by
  unfold eachQ at h
  split at h
  · cases h
  · rename_i t h1
    rw [Bool.and_eq_true] at h
    obtain ⟨h2, h⟩ := h
    split at h
    · cases h
    · rename_i rows d h3
      simp only [Bool.and_eq_true, decide_eq_true_eq] at h
      exact ⟨t, h1, h2, rows, d, h3, h.1, h.2⟩
theorem wayAt_lt {f i n : Nat} (h : i < n) : wayAt f i n < n := by
  unfold wayAt
  split
  · exact h
  · omega
  · split <;> omega
end
/-- The parts of two results. -/
def fstV : Value → Value
  | .tuple xs => xs.getD 0 undef
  | _ => undef
def sndV : Value → Value
  | .tuple xs => xs.getD 1 undef
  | _ => undef
end Go.Proofs.YtaophiknldkfdaaGreatDoor
