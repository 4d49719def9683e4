/-
  Joined: WlkNod, BldMath, BldLev, BldTree, BldOut, BldLvl, BldA, WlkLoop.
-/
import Derived.Test.YtnjlganofjkpfaaGreatJBldB31
import Derived.Test.YtnjlganofjkpfaaGreatJBldB27
import Derived.Test.YtnjlganofjkpfaaGreatJBldB16
import Derived.Test.YtnjlganofjkpfaaGreatJBldB02
import Derived.BigQuiet
import Derived.Deep.Quiet
import Derived.Deep.QuietTactic
import Derived.Test.YtnjlganofjkpfaaGreatJBldB29
import Derived.Test.YtnjlganofjkpfaaGreatJBldB13
import Derived.Test.YtnjlganofjkpfaaGreatJBldB17
/-
  Layer 14's mathematics: the nodes and the roots of an image's blocks, as a scan sees them.
-/
namespace Go.Proofs.YtnjlganofjkpfaaGreat
open Go.RowKit
set_option linter.unusedVariables false
set_option linter.unusedSimpArgs false

/-- a block's node, or its error; a root's block, or its error -/
def nd14 (L : List UInt8) (n : Nat) (tree : Int) (no : Int) : Int × Nod := (nodE11 L n no tree, nodN11 L n no tree)
def rt14 (s : List UInt8) : Int × Int := (if rdE s rootS = 0 then ((partsN s rootS).map fun k : Nat => (k : Int)).getD 0 0 else 0, rdE s rootS)

theorem upFrom_ord : ∀ {p : Int} {l : List Int}, upFrom p l = true → ∀ j, j + 1 < l.length → l.getD j 0 < l.getD (j + 1) 0
  | _, [], _, j, hj => by simp at hj
  | _, [_], _, j, hj => by simp at hj
  | p, x :: y :: r, h, j, hj => by
    simp only [upFrom, Bool.and_eq_true, decide_eq_true_eq] at h
    cases j with
    | zero => simpa using h.2.1.1
    | succ j =>
      have h2 : upFrom x (y :: r) = true := by simp only [upFrom, Bool.and_eq_true, decide_eq_true_eq]; exact h.2
      have := upFrom_ord h2 j (by simpa using hj)
      simpa using this

theorem nd14_read {L : List UInt8} {n : Nat} {tree no : Int} (h : nodE11 L n no tree = 0) : nodN11 L n no tree = nodR (inB11 L n no 2) ∧ rightN (nodN11 L n no tree) = true ∧ (tree = 0 ∨ (nodN11 L n no tree).tree = tree) := by
  have hN : nodN11 L n no tree = readN (inB11 L n no 2) := by rw [nodN11, if_pos h]
  unfold nodE11 at h
  split at h
  · rename_i h1; exact absurd h h1
  · split at h
    · rename_i h2; exact absurd h h2
    · rename_i h1 h2
      have h3 : readNE (inB11 L n no 2) = 0 := by omega
      have h4 : readN (inB11 L n no 2) = nodR (inB11 L n no 2) := by rw [readN, if_pos h3]
      split at h
      · cases h
      · rename_i h5
        refine ⟨hN.trans h4, by rw [hN, h4]; exact readN_right h3, ?_⟩
        by_cases e : tree = 0
        · exact .inl e
        · right
          by_cases e2 : (readN (inB11 L n no 2)).tree = tree
          · rw [hN]; exact e2
          · exact absurd ⟨e, e2⟩ h5
theorem ndOk14 (L : List UInt8) (n : Nat) (tree : Int) : NdOk14 (nd14 L n tree) := by
  refine ⟨fun no h => ?_, fun no h => ?_⟩
  · obtain ⟨_, hr, _⟩ := nd14_read h
    obtain ⟨_, _, _, _, hu, _⟩ := rightN_iff.1 hr
    exact ord13_yes.2 (upFrom_ord hu)
  · obtain ⟨_, hr, _⟩ := nd14_read h
    obtain ⟨_, _, hl, _⟩ := rightN_iff.1 hr
    exact hl
theorem rightN_few {n : Nod} (h : rightN n = true) : n.keys.length ≤ 18 := by
  obtain ⟨_, h2, _⟩ := rightN_iff.1 h
  rcases widN_cases n.tree n.leaf with ⟨h1, h3⟩ | ⟨h1, h3⟩ | ⟨h1, h3⟩ | ⟨h1, h3⟩ | ⟨h1, h3⟩ <;> omega
theorem nd14_keys (L : List UInt8) (n : Nat) (tree no : Int) : (nd14 L n tree no).2.keys.length ≤ 18 := by
  show (nodN11 L n no tree).keys.length ≤ 18
  by_cases h : nodE11 L n no tree = 0
  · exact rightN_few (nd14_read h).2.1
  · rw [nodN11, if_neg h]
    exact Nat.zero_le _
/-- an inner node's values are of four bytes -/
theorem nd14_inner {L : List UInt8} {n : Nat} {tree no : Int} (h : (nd14 L n tree no).1 = 0) (hl : (nd14 L n tree no).2.leaf = false) : ∀ v ∈ (nd14 L n tree no).2.vals, v.length = 4 := by
  obtain ⟨_, hr, _⟩ := nd14_read h
  obtain ⟨hw, _, _, hv, _⟩ := rightN_iff.1 hr
  intro v hm
  have h1 := hv v hm
  have e : (nodN11 L n no tree).leaf = false := hl
  have h2 : widN (nodN11 L n no tree).tree (nodN11 L n no tree).leaf = 4 := by
    rw [e] at hw ⊢
    unfold widN at hw ⊢
    split
    · rename_i h3
      rw [if_pos h3] at hw
      exact absurd rfl hw
    · rfl
  omega

/-! ### what P14.3 asks -/
end Go.Proofs.YtnjlganofjkpfaaGreat

/-
  Layer 17's mathematics: what is written level by level, and that it is a packed subtree.
-/
namespace Go.Proofs.YtnjlganofjkpfaaGreat
open Go.RowKit
set_option linter.unusedVariables false
set_option linter.unusedSimpArgs false

/-! ### blocks that are not written stay -/
theorem blk_other17 {L x : List UInt8} {q : Nat} {no kind : Int} {b : Nat} (hL : L.length = q * 256) (hb : b < q) (hne : (b : Int) ≠ no) : blk (wrL11 L q no kind x) b = blk L b := by
  by_cases h : wrE11 q no kind x = 0
  · obtain ⟨h1, h2⟩ := wrE11_zero h
    obtain ⟨h3, h4⟩ := outB_not.1 h2
    rw [wrL11, if_pos h, blk_splice hL (sealB_length h1) (by omega) hb, if_neg (by omega)]
  · rw [wrL11, if_neg h]
theorem nd14_blk {L L2 : List UInt8} {q : Nat} {tree : Int} {b : Nat} (h : blk L2 b = blk L b) : nd14 L2 q tree (b : Int) = nd14 L q tree (b : Int) := by
  have e1 : inE11 L2 q (b : Int) 2 = inE11 L q (b : Int) 2 := by simp only [inE11, Int.toNat_natCast, h]
  have e2 : inB11 L2 q (b : Int) 2 = inB11 L q (b : Int) 2 := by simp only [inB11, Int.toNat_natCast, h]
  have e3 : nodE11 L2 q (b : Int) tree = nodE11 L q (b : Int) tree := by simp only [nodE11, e1, e2]
  simp only [nd14, nodN11, e3, e2]
theorem nd14_other17 {L x : List UInt8} {q : Nat} {no kind tree : Int} {b : Nat} (hL : L.length = q * 256) (hb : b < q) (hne : (b : Int) ≠ no) : nd14 (wrL11 L q no kind x) q tree (b : Int) = nd14 L q tree (b : Int) := nd14_blk (blk_other17 hL hb hne)
theorem rt14_root17 {no : Nat} (h : 1 ≤ no) (h2 : no ≤ 14399) : rt14 (encN 4 no) = ((no : Int), 0) := by
  have ho : okP (rootS.zip [(no : Int)]) = true := by
    simp [okP, rootS, inB]
    omega
  obtain ⟨h3, h4, _⟩ := read_built (ns := rootS) (vs := [(no : Int)]) rfl rootS_fit ho
  have e : bldP (rootS.zip [(no : Int)]) = encN 4 no := by
    rw [bldP, if_pos ho]
    simp [encP, rootS]
  rw [e] at h3 h4
  unfold rt14
  rw [h3, if_pos rfl, h4]
  rfl

/-! ### a level -/
/-- node k of a level -/
def nodB17 (tree : Int) (leaf : Bool) (m : Nat) (l : List Ent17) (k : Nat) : Nod := ⟨tree, leaf, ((l.drop (k * m)).take m).map (·.1), ((l.drop (k * m)).take m).map (·.2.1)⟩
/-- the image behind k nodes -/
def levW17 (q : Nat) (tree : Int) (leaf : Bool) (m : Nat) (l : List Ent17) (bs : List Int) (t : Nat) : Nat → List UInt8 → List UInt8
  | 0, L => L
  | k + 1, L => wrL11 (levW17 q tree leaf m l bs t k L) q (bs.getD (t + k) 0) 2 (encNod (nodB17 tree leaf m l k))
/-- the entry that stands for node k a level higher -/
def upE17 (m : Nat) (l : List Ent17) (bs : List Int) (t k : Nat) : Ent17 := (((l.drop (k * m)).headD (0, [], 0)).1, encN 4 (bs.getD (t + k) 0).toNat, bs.getD (t + k) 0)
def upL17 (m : Nat) (l : List Ent17) (bs : List Int) (t k : Nat) : List Ent17 := (List.range k).map (upE17 m l bs t)
theorem upL17_length (m : Nat) (l : List Ent17) (bs : List Int) (t k : Nat) : (upL17 m l bs t k).length = k := by simp [upL17]
/-- the levels above -/
def topB17 (q : Nat) (tree : Int) (bs : List Int) (l : List Ent17) (t : Nat) (L : List UInt8) : Int × Nat × List UInt8 :=
  if h : 1 < l.length then topB17 q tree bs (upL17 18 l bs t (fil15 l.length 18)) (t + fil15 l.length 18) (levW17 q tree false 18 l bs t (fil15 l.length 18) L) else ((l.headD (0, [], 0)).2.2, t, L)
termination_by l.length
decreasing_by rw [upL17_length]; exact fil15_lt h
/-- a tree of m entries a leaf: its root, how many blocks are taken, the image -/
def bldB17 (q : Nat) (tree : Int) (m : Nat) (bs : List Int) (l : List Ent17) (t : Nat) (L : List UInt8) : Int × Nat × List UInt8 :=
  topB17 q tree bs (upL17 m l bs t (fil15 l.length m)) (t + fil15 l.length m) (levW17 q tree true m l bs t (fil15 l.length m) L)
theorem topB17_one {q : Nat} {tree : Int} {bs : List Int} {l : List Ent17} {t : Nat} {L : List UInt8} (h : ¬ 1 < l.length) : topB17 q tree bs l t L = ((l.headD (0, [], 0)).2.2, t, L) := by rw [topB17, dif_neg h]
theorem topB17_more {q : Nat} {tree : Int} {bs : List Int} {l : List Ent17} {t : Nat} {L : List UInt8} (h : 1 < l.length) : topB17 q tree bs l t L = topB17 q tree bs (upL17 18 l bs t (fil15 l.length 18)) (t + fil15 l.length 18) (levW17 q tree false 18 l bs t (fil15 l.length 18) L) := by rw [topB17, dif_pos h]

/-- how many blocks it takes -/
theorem topB17_taken (q : Nat) (tree : Int) (bs : List Int) : ∀ (N : Nat) (l : List Ent17) (t : Nat) (L : List UInt8), l.length ≤ N → ((topB17 q tree bs l t L).2.1 : Int) = (t : Int) + (up15 l.length).sum
  | 0, l, t, L, h => by rw [topB17_one (by omega), up15_one (by omega)]; simp
  | N + 1, l, t, L, h => by
    by_cases h1 : 1 < l.length
    · have := fil15_lt h1
      rw [topB17_more h1, up15_more h1, topB17_taken q tree bs N _ _ _ (by rw [upL17_length]; omega), upL17_length, List.sum_cons]
      push_cast
      omega
    · rw [topB17_one h1, up15_one h1]; simp
theorem bldB17_taken (q : Nat) (tree : Int) (m : Nat) (bs : List Int) (l : List Ent17) (t : Nat) (L : List UInt8) : ((bldB17 q tree m bs l t L).2.1 : Int) = (t : Int) + (lev15 l.length m).sum := by
  rw [bldB17, topB17_taken q tree bs _ _ _ _ (Nat.le_refl _), upL17_length, lev15, List.sum_cons]
  push_cast
  omega

/-- blocks that may be handed out -/
structure Bs17 (q : Nat) (bs : List Int) : Prop where
  rise : ∀ i j, i < j → j < bs.length → bs.getD i 0 < bs.getD j 0
  low : ∀ i, i < bs.length → 1 ≤ bs.getD i 0 ∧ bs.getD i 0 < (q : Int)
  most : q ≤ 14400

section
variable {q : Nat} {tree : Int} {leaf : Bool} {m : Nat} {l : List Ent17} {bs : List Int} {t : Nat}
theorem levW17_length : ∀ (k : Nat) (L : List UInt8), L.length = q * 256 → (levW17 q tree leaf m l bs t k L).length = q * 256
  | 0, L, h => h
  | k + 1, L, h => wrL11_length (levW17_length k L h)
/-- a block that the level does not write -/
theorem levW17_other {L : List UInt8} (hL : L.length = q * 256) {b : Nat} (hb : b < q) : ∀ (k : Nat), (∀ i, i < k → (b : Int) ≠ bs.getD (t + i) 0) → nd14 (levW17 q tree leaf m l bs t k L) q tree (b : Int) = nd14 L q tree (b : Int)
  | 0, _ => rfl
  | k + 1, h => (nd14_other17 (levW17_length k L hL) hb (h k (Nat.lt_succ_self _))).trans (levW17_other hL hb k (fun i hi => h i (by omega)))
/-- a node that the level has written -/
theorem levW17_node {L : List UInt8} (hL : L.length = q * 256) (hB : Bs17 q bs) : ∀ (k : Nat), t + k ≤ bs.length → (∀ i, i < k → rightN (nodB17 tree leaf m l i) = true) → ∀ i, i < k → nd14 (levW17 q tree leaf m l bs t k L) q tree (bs.getD (t + i) 0) = (0, nodB17 tree leaf m l i)
  | 0, _, _, i, hi => by omega
  | k + 1, hk, hr, i, hi => by
    have hl := levW17_length (tree := tree) (leaf := leaf) (m := m) (l := l) (bs := bs) (t := t) k L hL
    by_cases he : i = k
    · subst he
      have hb := hB.low (t + i) (by omega)
      have := (nod_written (L := levW17 q tree leaf m l bs t i L) (no := bs.getD (t + i) 0) hl (hr i hi) (outB_not.2 ⟨by omega, hb.2⟩) (by have := hB.most; omega)).2.1 tree (.inr rfl)
      show ((_ : Int), (_ : Nod)) = _
      rw [levW17, this.1, this.2]
    · have hb := hB.low (t + i) (by omega)
      obtain ⟨b, hb2⟩ := Int.eq_ofNat_of_zero_le (show 0 ≤ bs.getD (t + i) 0 by omega)
      have ih := levW17_node hL hB k (by omega) (fun j hj => hr j (by omega)) i (by omega)
      rw [hb2] at ih ⊢
      rw [levW17, nd14_other17 hl (by omega) (by rw [← hb2]; exact Int.ne_of_lt (hB.rise _ _ (by omega) (by omega)))]
      exact ih
end
end Go.Proofs.YtnjlganofjkpfaaGreat

/-
  Layer 17's mathematics: each level of a packed tree is a row of packed subtrees.
-/
namespace Go.Proofs.YtnjlganofjkpfaaGreat
open Go.RowKit
set_option linter.unusedVariables false
set_option linter.unusedSimpArgs false

theorem upFrom_of17 : ∀ (l : List Int) (p : Int), (∀ x ∈ l, p < x ∧ x ≤ maxK) → l.Pairwise (· < ·) → upFrom p l = true
  | [], _, _, _ => rfl
  | x :: r, p, h, hp => by
    obtain ⟨h1, h2⟩ := List.pairwise_cons.1 hp
    have hx := h x (List.mem_cons_self ..)
    simp only [upFrom, Bool.and_eq_true, decide_eq_true_eq]
    exact ⟨⟨hx.1, hx.2⟩, upFrom_of17 r x (fun y hy => ⟨h1 y hy, (h y (List.mem_cons_of_mem _ hy)).2⟩) h2⟩
theorem up15_few : ∀ (j k : Nat), k ≤ 18 ^ j → (up15 k).length ≤ j
  | 0, k, h => by rw [up15_one (by simp at h; omega)]; exact Nat.le_refl _
  | j + 1, k, h => by
    by_cases h1 : 1 < k
    · rw [up15_more h1, List.length_cons]
      have : fil15 k 18 ≤ 18 ^ j := by
        have hp : 1 ≤ 18 ^ j := Nat.pos_of_ne_zero (by simp)
        refine (fil15_room (by omega) hp).2 ?_
        rw [Nat.pow_succ] at h
        omega
      have := up15_few j _ this
      omega
    · rw [up15_one h1]; exact Nat.zero_le _
theorem lev15_few {n m : Nat} (hm : 1 ≤ m) (hn : n ≤ 32768) : (lev15 n m).length ≤ 5 := by
  have h1 := fil15_le (n := n) hm
  have := up15_few 4 (fil15 n m) (by omega)
  rw [lev15, List.length_cons]
  omega

/-- chunk k of a list -/
def chk17 {α : Type} (m : Nat) (l : List α) (k : Nat) : List α := (l.drop (k * m)).take m
theorem chk17_map {α β : Type} (f : α → β) (m : Nat) (l : List α) (k : Nat) : chk17 m (l.map f) k = (chk17 m l k).map f := by simp [chk17, List.map_take, List.map_drop]
theorem chk17_sub {α : Type} (m : Nat) (l : List α) (k : Nat) : (chk17 m l k).Sublist l := (List.take_sublist _ _).trans (List.drop_sublist _ _)
theorem chk17_head {α : Type} {m : Nat} (hm : 1 ≤ m) (l : List α) (k : Nat) (d : α) : (chk17 m l k).headD d = (l.drop (k * m)).headD d := by
  unfold chk17
  cases l.drop (k * m) with
  | nil => simp
  | cons x r =>
    obtain ⟨m', rfl⟩ : ∃ m', m = m' + 1 := ⟨m - 1, by omega⟩
    simp
theorem chk17_le {α : Type} (m : Nat) (l : List α) (k : Nat) : (chk17 m l k).length ≤ m := by simp [chk17]; omega
theorem chk17_pos {α : Type} {m : Nat} (hm : 1 ≤ m) (l : List α) {k : Nat} (hl : 0 < l.length) (hk : k < fil15 l.length m) : chk17 m l k ≠ [] := by
  have h1 : k * m < l.length := by
    by_cases h0 : k = 0
    · subst h0; simpa using hl
    · have h2 : ¬ l.length ≤ m * k := fun h2 => by
        have := (fil15_room hm (show 1 ≤ k by omega)).2 h2
        omega
      rw [Nat.mul_comm] at h2
      omega
  intro e
  have := congrArg List.length e
  simp [chk17] at this
  omega
/-- the chunks together -/
theorem chk17_all {α : Type} {m : Nat} (l : List α) : ∀ k, (List.range k).flatMap (chk17 m l) = l.take (k * m)
  | 0 => by simp
  | k + 1 => by
    rw [List.range_succ, List.flatMap_append, chk17_all l k, List.flatMap_singleton, chk17, Nat.succ_mul, List.take_add]
theorem chk17_whole {α : Type} {m : Nat} (hm : 1 ≤ m) (l : List α) : (List.range (fil15 l.length m)).flatMap (chk17 m l) = l := by
  rw [chk17_all, List.take_of_length_le]
  have := (fil15_room hm (fil15_pos l.length m)).1 (Nat.le_refl _)
  rw [Nat.mul_comm]
  exact this

/-- the entry that stands for a subtree -/
def kE17 (c : Kid17) : Ent17 := ((c.es.headD (0, [], 0)).1, encN 4 c.no.toNat, c.no)
/-- a level: its subtrees, t blocks taken, the first t0 by others -/
structure Lv17 (q : Nat) (tree : Int) (bs : List Int) (t0 : Nat) (L : List UInt8) (h t : Nat) (ks : List Kid17) : Prop where
  sub : ∀ c ∈ ks, Sub17 (nd14 L q tree) rt14 h c.no c.es c.bl
  blk : ∀ c ∈ ks, ∀ b ∈ c.bl, ∃ i, i < t ∧ b = bs.getD i 0
  no : ∀ c ∈ ks, ∃ i, i < t ∧ c.no = bs.getD i 0
  up : Up17 (ks.flatMap Kid17.es)
  rng : ∀ e ∈ ks.flatMap Kid17.es, 0 ≤ e.1 ∧ e.1 ≤ maxK
  cnt : (ks.flatMap Kid17.bl).length + t0 = t
  len : L.length = q * 256
/-- the subtrees of the level above -/
def nxt17 (bs : List Int) (t : Nat) (ks : List Kid17) (k : Nat) : Kid17 := ⟨bs.getD (t + k) 0, (chk17 18 ks k).flatMap Kid17.es, bs.getD (t + k) 0 :: (chk17 18 ks k).flatMap Kid17.bl⟩
def nxts17 (bs : List Int) (t : Nat) (ks : List Kid17) : List Kid17 := (List.range (fil15 ks.length 18)).map (nxt17 bs t ks)
theorem nxts17_length (bs : List Int) (t : Nat) (ks : List Kid17) : (nxts17 bs t ks).length = fil15 ks.length 18 := by simp [nxts17]

section
variable {q : Nat} {tree : Int} {bs : List Int} {t0 : Nat} {L : List UInt8} {h t : Nat} {ks : List Kid17}
theorem headD_flat17 {c : List Kid17} (h : c ≠ []) (hn : ∀ x ∈ c, x.es ≠ []) : (c.flatMap Kid17.es).headD (0, [], 0) = ((c.headD ⟨0, [], []⟩).es).headD (0, [], 0) := by
  cases c with
  | nil => exact absurd rfl h
  | cons x r =>
    simp only [List.flatMap_cons, List.headD_cons]
    cases hx : x.es with
    | nil => exact absurd hx (hn x (List.mem_cons_self ..))
    | cons e r2 => simp
theorem up17_entries (hn : ∀ c ∈ ks, c.es ≠ []) (h1 : 0 < ks.length) : upL17 18 (ks.map kE17) bs t (fil15 (ks.map kE17).length 18) = (nxts17 bs t ks).map kE17 := by
  rw [List.length_map, upL17, nxts17, List.map_map]
  refine List.map_congr_left fun k hk => ?_
  have hk := List.mem_range.1 hk
  have hc := chk17_pos (m := 18) (by omega) ks h1 hk
  have e1 : ((ks.map kE17).drop (k * 18)).headD (0, [], 0) = kE17 ((chk17 18 ks k).headD ⟨0, [], []⟩) := by
    rw [← chk17_head (m := 18) (by omega), chk17_map]
    cases hcc : chk17 18 ks k with
    | nil => exact absurd hcc hc
    | cons x r => rfl
  show upE17 18 (ks.map kE17) bs t k = kE17 (nxt17 bs t ks k)
  unfold upE17
  rw [e1]
  show ((kE17 ((chk17 18 ks k).headD ⟨0, [], []⟩)).1, encN 4 (bs.getD (t + k) 0).toNat, bs.getD (t + k) 0) = ((((chk17 18 ks k).flatMap Kid17.es).headD (0, [], 0)).1, encN 4 (bs.getD (t + k) 0).toNat, bs.getD (t + k) 0)
  rw [headD_flat17 hc (fun x hx => hn x ((chk17_sub 18 ks k).subset hx))]
  rfl

theorem nodB17_inner {k : Nat} (ht : 1 ≤ tree ∧ tree ≤ 5) (hn : ∀ c ∈ ks, c.es ≠ []) (hu : Up17 (ks.flatMap Kid17.es)) (hr : ∀ e ∈ ks.flatMap Kid17.es, 0 ≤ e.1 ∧ e.1 ≤ maxK) (h1 : 0 < ks.length) (hk : k < fil15 ks.length 18) : rightN (nodB17 tree false 18 (ks.map kE17) k) = true := by
  have hw : widN tree false = 4 := by unfold widN; rw [if_neg (by omega), if_pos rfl]
  have hc := chk17_pos (m := 18) (by omega) ks h1 hk
  have he : ((ks.map kE17).drop (k * 18)).take 18 = (chk17 18 ks k).map kE17 := chk17_map kE17 18 ks k
  have hhead : ∀ c ∈ ks, c.es.headD (0, [], 0) ∈ ks.flatMap Kid17.es := fun c hc => List.mem_flatMap.2 ⟨c, hc, head17_mem (hn c hc)⟩
  have hks : ks.Pairwise fun a b => (kE17 a).1 < (kE17 b).1 := by
    have h2 := (List.pairwise_flatMap.1 hu).2
    refine List.Pairwise.imp_of_mem (fun {a b} ha hb hab => ?_) h2
    show (a.es.headD (0, [], 0)).1 < (b.es.headD (0, [], 0)).1
    exact hab _ (head17_mem (hn a ha)) _ (head17_mem (hn b hb))
  refine rightN_iff.2 ⟨?_, ?_, ?_, ?_, ?_, .inr ?_⟩
  · simp [nodB17, hw]
  · simp only [nodB17, hw, he, List.length_map]
    exact chk17_le 18 ks k
  · simp [nodB17]
  · intro v hv
    simp only [nodB17, he, List.map_map, List.mem_map] at hv
    obtain ⟨c, _, rfl⟩ := hv
    simp [nodB17, hw, kE17, encN_length]
  · simp only [nodB17, he, List.map_map]
    refine upFrom_of17 _ _ (fun x hx => ?_) ?_
    · obtain ⟨c, hcc, rfl⟩ := List.mem_map.1 hx
      have := hr _ (hhead c ((chk17_sub 18 ks k).subset hcc))
      exact ⟨by show -1 < (c.es.headD (0, [], 0)).1; omega, this.2⟩
    · rw [List.pairwise_map]
      exact hks.sublist (chk17_sub 18 ks k)
  · simp only [nodB17, he, List.length_map]
    cases hcc : chk17 18 ks k with
    | nil => exact absurd hcc hc
    | cons x r => simp

/-- one level more -/
theorem Lv17.step (hv : Lv17 q tree bs t0 L h t ks) (hB : Bs17 q bs) (ht : 1 ≤ tree ∧ tree ≤ 5) (hn : ∀ c ∈ ks, c.es ≠ []) (h1 : 0 < ks.length) (hf : t + fil15 ks.length 18 ≤ bs.length) (hh : 1 ≤ h) :
    Lv17 q tree bs t0 (levW17 q tree false 18 (ks.map kE17) bs t (fil15 ks.length 18) L) (h + 1) (t + fil15 ks.length 18) (nxts17 bs t ks) ∧ (∀ c ∈ nxts17 bs t ks, c.es ≠ []) ∧ (nxts17 bs t ks).flatMap Kid17.es = ks.flatMap Kid17.es := by
  have hes : (nxts17 bs t ks).flatMap Kid17.es = ks.flatMap Kid17.es := by
    rw [nxts17, List.flatMap_map]
    show (List.range (fil15 ks.length 18)).flatMap (fun k => (chk17 18 ks k).flatMap Kid17.es) = _
    rw [← List.flatMap_assoc, chk17_whole (by omega)]
  have hr : ∀ i, i < fil15 ks.length 18 → rightN (nodB17 tree false 18 (ks.map kE17) i) = true := fun i hi => nodB17_inner ht hn hv.up hv.rng h1 hi
  have hnb : ∀ b : Int, (∃ i, i < t ∧ b = bs.getD i 0) → nd14 (levW17 q tree false 18 (ks.map kE17) bs t (fil15 ks.length 18) L) q tree b = nd14 L q tree b := by
    rintro b ⟨i, hi, rfl⟩
    have hb := hB.low i (by omega)
    obtain ⟨b', hb'⟩ := Int.eq_ofNat_of_zero_le (show 0 ≤ bs.getD i 0 by omega)
    rw [hb']
    refine levW17_other hv.len (by omega) _ fun j hj => ?_
    rw [← hb']
    exact Int.ne_of_lt (hB.rise _ _ (by omega) (by omega))
  refine ⟨⟨fun c hc => ?_, fun c hc b hb => ?_, fun c hc => ?_, by rw [hes]; exact hv.up, by rw [hes]; exact hv.rng, ?_, levW17_length _ _ hv.len⟩, fun c hc => ?_, hes⟩
  · obtain ⟨k, hk, rfl⟩ := List.mem_map.1 hc
    have hk := List.mem_range.1 hk
    have hnode := levW17_node (leaf := false) (m := 18) (l := ks.map kE17) hv.len hB (fil15 ks.length 18) hf hr k hk
    have he : ((ks.map kE17).drop (k * 18)).take 18 = (chk17 18 ks k).map kE17 := chk17_map kE17 18 ks k
    obtain ⟨h', rfl⟩ : ∃ h', h = h' + 1 := ⟨h - 1, by omega⟩
    refine ⟨chk17 18 ks k, ?_, ?_, chk17_pos (by omega) ks h1 hk, ?_, ?_, fun c hc => ?_, rfl, rfl⟩
    · show (nd14 _ q tree (bs.getD (t + k) 0)).1 = 0
      rw [hnode]
    · show (nd14 _ q tree (bs.getD (t + k) 0)).2.leaf = false
      rw [hnode]; rfl
    · show (nd14 _ q tree (bs.getD (t + k) 0)).2.keys = _
      rw [hnode]
      simp only [nodB17, he, List.map_map]
      rfl
    · show (nd14 _ q tree (bs.getD (t + k) 0)).2.vals.map rt14 = _
      rw [hnode]
      simp only [nodB17, he, List.map_map]
      refine List.map_congr_left fun c hc => ?_
      obtain ⟨i, hi, e⟩ := hv.no c ((chk17_sub 18 ks k).subset hc)
      have hb := hB.low i (by omega)
      have hm := hB.most
      show rt14 (encN 4 c.no.toNat) = (c.no, 0)
      rw [rt14_root17 (by omega) (by omega), e]
      congr 1
      omega
    · have hck := (chk17_sub 18 ks k).subset hc
      refine ⟨Sub17.congr (hv.sub c hck) fun b hb => hnb b (hv.blk c hck b hb), ?_, hn c hck⟩
      obtain ⟨i, hi, e⟩ := hv.no c hck
      rw [e]
      exact hB.rise _ _ (by omega) (by omega)
  · obtain ⟨k, hk, rfl⟩ := List.mem_map.1 hc
    have hk := List.mem_range.1 hk
    rcases List.mem_cons.1 hb with rfl | hb
    · exact ⟨t + k, by omega, rfl⟩
    · obtain ⟨c, hcc, hb⟩ := List.mem_flatMap.1 hb
      obtain ⟨i, hi, e⟩ := hv.blk c ((chk17_sub 18 ks k).subset hcc) b hb
      exact ⟨i, by omega, e⟩
  · obtain ⟨k, hk, rfl⟩ := List.mem_map.1 hc
    have hk := List.mem_range.1 hk
    exact ⟨t + k, by omega, rfl⟩
  · have hcount : ∀ (f : Nat → List Int) (n : Nat) (g : Nat → Int), ((List.range n).flatMap fun k => g k :: f k).length = ((List.range n).flatMap f).length + n := fun f n g => by
      induction n with
      | zero => simp
      | succ n ih => simp only [List.range_succ, List.flatMap_append, List.length_append, ih, List.flatMap_singleton, List.length_cons]; omega
    have e : (nxts17 bs t ks).flatMap Kid17.bl = (List.range (fil15 ks.length 18)).flatMap fun k => bs.getD (t + k) 0 :: (chk17 18 ks k).flatMap Kid17.bl := by rw [nxts17, List.flatMap_map]; rfl
    rw [e, hcount, ← List.flatMap_assoc, chk17_whole (by omega)]
    have := hv.cnt
    omega
  · obtain ⟨k, hk, rfl⟩ := List.mem_map.1 hc
    have hk := List.mem_range.1 hk
    have hcc := chk17_pos (m := 18) (by omega) ks h1 hk
    cases hx : chk17 18 ks k with
    | nil => exact absurd hx hcc
    | cons x r =>
      have hxm : x ∈ ks := (chk17_sub 18 ks k).subset (by rw [hx]; simp)
      show (chk17 18 ks k).flatMap Kid17.es ≠ []
      rw [hx, List.flatMap_cons]
      intro e
      exact hn x hxm (List.append_eq_nil_iff.1 e).1

/-- up to the root -/
theorem Lv17.top (hB : Bs17 q bs) (ht : 1 ≤ tree ∧ tree ≤ 5) : ∀ (N : Nat) (ks : List Kid17) (L : List UInt8) (h t : Nat), ks.length ≤ N → Lv17 q tree bs t0 L h t ks → 1 ≤ h → 0 < ks.length → (1 < ks.length → ∀ c ∈ ks, c.es ≠ []) → (t : Int) + (up15 ks.length).sum ≤ (bs.length : Int) →
    ∃ c L' t', topB17 q tree bs (ks.map kE17) t L = (c.no, t', L') ∧ Lv17 q tree bs t0 L' (h + (up15 ks.length).length) t' [c] ∧ c.es = ks.flatMap Kid17.es
  | 0, ks, L, h, t, hN, _, _, hp, _, _ => by omega
  | N + 1, ks, L, h, t, hN, hv, hh, hp, hn, hf => by
    by_cases h1 : 1 < ks.length
    · have hlt := fil15_lt h1
      rw [up15_more h1, List.sum_cons] at hf
      have hpos := (up15_sum _ _ (Nat.le_refl (fil15 ks.length 18)) (fil15_pos _ _)).1
      obtain ⟨s1, s2, s3⟩ := hv.step hB ht (hn h1) hp (by omega) hh
      obtain ⟨c, L', t', g1, g2, g3⟩ := Lv17.top hB ht N (nxts17 bs t ks) _ (h + 1) (t + fil15 ks.length 18) (by rw [nxts17_length]; omega) s1 (by omega) (by rw [nxts17_length]; exact fil15_pos _ _) (fun _ => s2) (by rw [nxts17_length]; push_cast; omega)
      refine ⟨c, L', t', ?_, ?_, g3.trans s3⟩
      · rw [topB17_more (by rw [List.length_map]; exact h1), up17_entries (hn h1) hp, List.length_map]
        exact g1
      · rw [nxts17_length] at g2
        rw [up15_more h1, List.length_cons]
        have e : h + ((up15 (fil15 ks.length 18)).length + 1) = h + 1 + (up15 (fil15 ks.length 18)).length := by omega
        rw [e]
        exact g2
    · obtain ⟨c, rfl⟩ : ∃ c, ks = [c] := List.length_eq_one_iff.1 (by omega)
      refine ⟨c, L, t, ?_, ?_, by simp⟩
      · rw [topB17_one (by simp)]; rfl
      · rw [up15_one h1]; exact hv
end
end Go.Proofs.YtnjlganofjkpfaaGreat

/-
  Layer 17's mathematics: what is built is a packed subtree of just these entries, and a scan finds it whole.
-/
namespace Go.Proofs.YtnjlganofjkpfaaGreat
open Go.RowKit
set_option linter.unusedVariables false
set_option linter.unusedSimpArgs false

/-- may entries be a tree's, whose leaves have m? -/
structure R17 (tree : Int) (m : Nat) (l : List Ent17) : Prop where
  cap : capN (widN tree true) = m
  pos : 0 < m
  few : l.length ≤ 32768
  rng : ∀ e ∈ l, 0 ≤ e.1 ∧ e.1 ≤ maxK
  up : Up17 l
  wid : ∀ e ∈ l, e.2.1.length = widN tree true
theorem R17.wide {tree : Int} {m : Nat} {l : List Ent17} (h : R17 tree m l) : widN tree true ≠ 0 := fun e => by
  have := h.cap
  rw [e] at this
  have := h.pos
  simp [capN] at *
  omega
theorem R17.tree_ {tree : Int} {m : Nat} {l : List Ent17} (h : R17 tree m l) : 1 ≤ tree ∧ tree ≤ 5 := by
  have := h.wide
  unfold widN at this
  by_cases h3 : tree < 1 ∨ 5 < tree
  · rw [if_pos h3] at this; exact absurd rfl this
  · omega

/-- key and value -/
def kv17 (e : Ent17) : Int × List UInt8 := (e.1, e.2.1)
/-- the leaves -/
def leaf17 (tree : Int) (m : Nat) (bs : List Int) (t : Nat) (l : List Ent17) (k : Nat) : Kid17 := ⟨bs.getD (t + k) 0, ents14 (nodB17 tree true m l k) (bs.getD (t + k) 0), [bs.getD (t + k) 0]⟩
def leafs17 (tree : Int) (m : Nat) (bs : List Int) (t : Nat) (l : List Ent17) : List Kid17 := (List.range (fil15 l.length m)).map (leaf17 tree m bs t l)
theorem leafs17_length (tree : Int) (m : Nat) (bs : List Int) (t : Nat) (l : List Ent17) : (leafs17 tree m bs t l).length = fil15 l.length m := by simp [leafs17]
theorem leaf17_es (tree : Int) (m : Nat) (bs : List Int) (t : Nat) (l : List Ent17) (k : Nat) : (leaf17 tree m bs t l k).es = (chk17 m l k).map fun e => (e.1, e.2.1, bs.getD (t + k) 0) := by
  show ents14 (nodB17 tree true m l k) (bs.getD (t + k) 0) = _
  unfold ents14
  apply List.ext_getElem
  · simp [nodB17, chk17]
  · intro i a b
    have hi : i < (chk17 m l k).length := by simpa using b
    have h1 : i < (List.map (fun x : Ent17 => x.1) (List.take m (List.drop (k * m) l))).length := by simpa [chk17] using hi
    have h2 : i < (List.map (fun x : Ent17 => x.2.1) (List.take m (List.drop (k * m) l))).length := by simpa [chk17] using hi
    simp only [List.getElem_map, List.getElem_range, nodB17, List.getD_eq_getElem?_getD, List.getElem?_eq_getElem h1, List.getElem?_eq_getElem h2, Option.getD_some]
    rfl
theorem leafs17_kv {m : Nat} (hm : 1 ≤ m) (tree : Int) (bs : List Int) (t : Nat) (l : List Ent17) : ((leafs17 tree m bs t l).flatMap Kid17.es).map kv17 = l.map kv17 := by
  have e : ((leafs17 tree m bs t l).flatMap Kid17.es).map kv17 = (List.range (fil15 l.length m)).flatMap fun k => (chk17 m l k).map kv17 := by
    rw [leafs17, List.flatMap_map, List.map_flatMap]
    congr 1
    funext k
    rw [leaf17_es, List.map_map]
    rfl
  rw [e, ← List.map_flatMap, chk17_whole hm]
theorem up17_kv {a b : List Ent17} (h : a.map kv17 = b.map kv17) (hb : Up17 b) : Up17 a := by
  have h2 : a.map (fun e => e.1) = b.map (fun e => e.1) := by
    have := congrArg (List.map Prod.fst) h
    rw [List.map_map, List.map_map] at this
    exact this
  have h3 : (b.map fun e => e.1).Pairwise (· < ·) := List.pairwise_map.2 hb
  rw [← h2] at h3
  exact List.pairwise_map.1 h3
theorem rng17_kv {a b : List Ent17} (h : a.map kv17 = b.map kv17) (hb : ∀ e ∈ b, 0 ≤ e.1 ∧ e.1 ≤ maxK) : ∀ e ∈ a, 0 ≤ e.1 ∧ e.1 ≤ maxK := fun e he => by
  have h1 : kv17 e ∈ b.map kv17 := by rw [← h]; exact List.mem_map.2 ⟨e, he, rfl⟩
  obtain ⟨x, hx, e2⟩ := List.mem_map.1 h1
  have : x.1 = e.1 := congrArg (fun y : Int × List UInt8 => y.1) e2
  rw [← this]
  exact hb x hx

section
variable {q : Nat} {tree : Int} {bs : List Int} {L : List UInt8} {t m : Nat} {l : List Ent17}
theorem nodB17_leaf (h : R17 tree m l) (k : Nat) : rightN (nodB17 tree true m l k) = true := by
  have hs := chk17_sub m l k
  have he : (l.drop (k * m)).take m = chk17 m l k := rfl
  refine rightN_iff.2 ⟨h.wide, ?_, ?_, ?_, ?_, .inl rfl⟩
  · simp only [nodB17, he, List.length_map, h.cap]
    exact chk17_le m l k
  · simp [nodB17]
  · intro v hv
    simp only [nodB17, he] at hv
    obtain ⟨c, hc, rfl⟩ := List.mem_map.1 hv
    exact h.wid c (hs.subset hc)
  · simp only [nodB17, he]
    refine upFrom_of17 _ _ (fun x hx => ?_) ?_
    · obtain ⟨c, hcc, rfl⟩ := List.mem_map.1 hx
      have := h.rng _ (hs.subset hcc)
      exact ⟨by omega, this.2⟩
    · rw [List.pairwise_map]
      exact h.up.sublist hs
/-- the leaves' level -/
theorem leafs17_level (h : R17 tree m l) (hB : Bs17 q bs) (hL : L.length = q * 256) (hf : t + fil15 l.length m ≤ bs.length) :
    Lv17 q tree bs t (levW17 q tree true m l bs t (fil15 l.length m) L) 1 (t + fil15 l.length m) (leafs17 tree m bs t l) ∧ (0 < l.length → ∀ c ∈ leafs17 tree m bs t l, c.es ≠ []) ∧ (0 < l.length ∨ (leafs17 tree m bs t l).length = 1) := by
  have hkv := leafs17_kv h.pos tree bs t l
  refine ⟨⟨fun c hc => ?_, fun c hc b hb => ?_, fun c hc => ?_, up17_kv hkv h.up, rng17_kv hkv h.rng, ?_, levW17_length _ _ hL⟩, fun hl c hc => ?_, ?_⟩
  · obtain ⟨k, hk, rfl⟩ := List.mem_map.1 hc
    have hk := List.mem_range.1 hk
    have hnode := levW17_node (leaf := true) (m := m) (l := l) hL hB (fil15 l.length m) hf (fun i _ => nodB17_leaf h i) k hk
    refine ⟨?_, ?_, ?_, rfl⟩
    · show (nd14 _ q tree (bs.getD (t + k) 0)).1 = 0
      rw [hnode]
    · show (nd14 _ q tree (bs.getD (t + k) 0)).2.leaf = true
      rw [hnode]; rfl
    · show ents14 (nodB17 tree true m l k) (bs.getD (t + k) 0) = ents14 (nd14 _ q tree (bs.getD (t + k) 0)).2 (bs.getD (t + k) 0)
      rw [hnode]
  · obtain ⟨k, hk, rfl⟩ := List.mem_map.1 hc
    have hk := List.mem_range.1 hk
    exact ⟨t + k, by omega, List.mem_singleton.1 hb⟩
  · obtain ⟨k, hk, rfl⟩ := List.mem_map.1 hc
    have hk := List.mem_range.1 hk
    exact ⟨t + k, by omega, rfl⟩
  · have hcount : ∀ (n : Nat) (g : Nat → Int), ((List.range n).flatMap fun k => [g k]).length = n := fun n g => by
      induction n with
      | zero => simp
      | succ n ih => simp only [List.range_succ, List.flatMap_append, List.length_append, ih, List.flatMap_singleton, List.length_singleton]
    have e : (leafs17 tree m bs t l).flatMap Kid17.bl = (List.range (fil15 l.length m)).flatMap fun k => [bs.getD (t + k) 0] := by rw [leafs17, List.flatMap_map]; rfl
    rw [e, hcount]
    omega
  · obtain ⟨k, hk, rfl⟩ := List.mem_map.1 hc
    have hk := List.mem_range.1 hk
    rw [leaf17_es]
    intro e
    exact chk17_pos h.pos l hl hk (List.map_eq_nil_iff.1 e)
  · by_cases hl : 0 < l.length
    · exact .inl hl
    · refine .inr ?_
      rw [leafs17_length, show l.length = 0 by omega]
      simp [fil15]
theorem up17_leafs (hm : 1 ≤ m) : upL17 m l bs t (fil15 l.length m) = (leafs17 tree m bs t l).map kE17 := by
  rw [upL17, leafs17, List.map_map]
  refine List.map_congr_left fun k hk => ?_
  show upE17 m l bs t k = kE17 (leaf17 tree m bs t l k)
  unfold upE17 kE17
  rw [leaf17_es, ← chk17_head hm]
  cases chk17 m l k with
  | nil => rfl
  | cons x r => rfl

/-- what is built is a packed subtree of these entries -/
theorem bldB17_sub (h : R17 tree m l) (hB : Bs17 q bs) (hL : L.length = q * 256) (hf : (t : Int) + (lev15 l.length m).sum ≤ (bs.length : Int)) :
    ∃ (root : Int) (t' : Nat) (L' : List UInt8) (es : List Ent17) (bl : List Int), bldB17 q tree m bs l t L = (root, t', L') ∧ Sub17 (nd14 L' q tree) rt14 (lev15 l.length m).length root es bl ∧ es.map kv17 = l.map kv17 ∧ bl.length + t = t' ∧ L'.length = q * 256 ∧ (∃ i, i < t' ∧ root = bs.getD i 0) := by
  have hf2 : (t : Int) + (fil15 l.length m : Int) + (up15 (fil15 l.length m)).sum ≤ (bs.length : Int) := by rw [lev15, List.sum_cons] at hf; omega
  have hpos := (up15_sum _ _ (Nat.le_refl (fil15 l.length m)) (fil15_pos _ _)).1
  obtain ⟨s1, s2, s3⟩ := leafs17_level h hB hL (t := t) (by omega)
  obtain ⟨c, L', t', g1, g2, g3⟩ := Lv17.top hB h.tree_ _ _ _ _ _ (Nat.le_refl _) s1 (Nat.le_refl _) (by rw [leafs17_length]; exact fil15_pos _ _) (fun h1 => by
    rcases s3 with h3 | h3
    · exact s2 h3
    · omega) (by rw [leafs17_length]; push_cast; omega)
  refine ⟨c.no, t', L', c.es, c.bl, ?_, ?_, ?_, ?_, g2.len, g2.no c (List.mem_singleton.2 rfl)⟩
  · rw [bldB17, up17_leafs h.pos]
    exact g1
  · have := g2.sub c (List.mem_singleton.2 rfl)
    rw [leafs17_length, Nat.add_comm] at this
    exact this
  · rw [g3]
    exact leafs17_kv h.pos tree bs t l
  · have := g2.cnt
    simpa using this

/-- and a scan finds it whole -/
theorem bldB17_scan (h : R17 tree m l) (hB : Bs17 q bs) (hL : L.length = q * 256) (hf : (t : Int) + (lev15 l.length m).sum ≤ (bs.length : Int)) {fuel : Int} (hfu : (lev15 l.length m).sum ≤ fuel) :
    ∃ (root : Int) (t' : Nat) (L' : List UInt8) (es : List Ent17) (bl : List Int), bldB17 q tree m bs l t L = (root, t', L') ∧ es.map kv17 = l.map kv17 ∧ bl.length + t = t' ∧ (t' : Int) = (t : Int) + (lev15 l.length m).sum ∧ L'.length = q * 256 ∧ (∃ i, i < t' ∧ root = bs.getD i 0) ∧
      Done14 (nd14 L' q tree) rt14 fuel Wlk14.zero [Vis14.root root] ⟨es, bl, ((lev15 l.length m).length : Int), (bl.length : Int), []⟩ := by
  obtain ⟨root, t', L', es, bl, h1, h2, h3, h4, h5, h6⟩ := bldB17_sub h hB hL hf
  have h7 := bldB17_taken q tree m bs l t L
  rw [h1] at h7
  simp only at h7
  have hlev := lev15_few (n := l.length) h.pos h.few
  refine ⟨root, t', L', es, bl, h1, h3, h4, h7, h5, h6, Sub17.whole h2 (by omega) (up17_kv h3 h.up) (fun e he => ?_) (by omega)⟩
  have := rng17_kv h3 h.rng e he
  have hK : maxK = 281474976710655 := rfl
  omega
end

/-- the root lies in the last block that was taken -/
theorem topB17_root (q : Nat) (tree : Int) (bs : List Int) : ∀ (N : Nat) (l : List Ent17) (t : Nat) (L : List UInt8), l.length ≤ N → 0 < l.length → (l.getD (l.length - 1) (0, [], 0)).2.2 = bs.getD (t - 1) 0 → (topB17 q tree bs l t L).1 = bs.getD ((topB17 q tree bs l t L).2.1 - 1) 0
  | 0, l, t, L, h, h0, _ => by omega
  | N + 1, l, t, L, h, h0, he => by
    by_cases h1 : 1 < l.length
    · have hlt := fil15_lt h1
      have hp := fil15_pos l.length 18
      rw [topB17_more h1]
      refine topB17_root q tree bs N _ _ _ (by rw [upL17_length]; omega) (by rw [upL17_length]; omega) ?_
      rw [upL17_length, upL17, List.getD_eq_getElem?_getD, List.getElem?_map, List.getElem?_range (by omega)]
      show bs.getD (t + (fil15 l.length 18 - 1)) 0 = _
      exact congrArg (fun i => bs.getD i 0) (by omega)
    · rw [topB17_one h1]
      obtain ⟨x, rfl⟩ : ∃ x, l = [x] := List.length_eq_one_iff.1 (by omega)
      simpa using he
theorem bldB17_root (q : Nat) (tree : Int) (m : Nat) (bs : List Int) (l : List Ent17) (t : Nat) (L : List UInt8) : (bldB17 q tree m bs l t L).1 = bs.getD ((bldB17 q tree m bs l t L).2.1 - 1) 0 := by
  have hp := fil15_pos l.length m
  refine topB17_root q tree bs _ _ _ _ (Nat.le_refl _) (by rw [upL17_length]; omega) ?_
  rw [upL17_length, upL17, List.getD_eq_getElem?_getD, List.getElem?_map, List.getElem?_range (by omega)]
  show bs.getD (t + (fil15 l.length m - 1)) 0 = _
  exact congrArg (fun i => bs.getD i 0) (by omega)
end Go.Proofs.YtnjlganofjkpfaaGreat

/-
  Layer 17's mathematics: which entries may be a tree's, and what Tree answers.
-/
namespace Go.Proofs.YtnjlganofjkpfaaGreat
open Go.RowKit
set_option linter.unusedVariables false
set_option linter.unusedSimpArgs false

def key17 (l : List Ent17) (i : Nat) : Int := (l.getD i (0, [], 0)).1
def val17 (l : List Ent17) (i : Nat) : List UInt8 := (l.getD i (0, [], 0)).2.1
/-- may entry i stand where it stands? -/
def at17 (wd : Nat) (l : List Ent17) (i : Nat) : Bool := decide (0 ≤ key17 l i) && decide (key17 l i ≤ maxK) && (decide (i = 0) || decide (key17 l (i - 1) < key17 l i)) && decide ((val17 l i).length = wd)
/-- may entries be a tree's? -/
def rightB17 (tree : Int) (l : List Ent17) : Bool := decide (capN (widN tree true) ≠ 0) && decide (l.length ≤ 32768) && (List.range l.length).all (at17 (widN tree true) l)
theorem key17_at {l : List Ent17} {i : Nat} (h : i < l.length) : key17 l i = l[i].1 := by simp [key17, List.getD_eq_getElem?_getD, h]
theorem val17_at {l : List Ent17} {i : Nat} (h : i < l.length) : val17 l i = l[i].2.1 := by simp [val17, List.getD_eq_getElem?_getD, h]
theorem at17_yes {wd : Nat} {l : List Ent17} {i : Nat} : at17 wd l i = true ↔ 0 ≤ key17 l i ∧ key17 l i ≤ maxK ∧ (i = 0 ∨ key17 l (i - 1) < key17 l i) ∧ (val17 l i).length = wd := by
  simp [at17, and_assoc]
theorem rightB17_yes {tree : Int} {l : List Ent17} (h : rightB17 tree l = true) : R17 tree (capN (widN tree true)) l := by
  simp only [rightB17, Bool.and_eq_true, decide_eq_true_eq, List.all_eq_true, List.mem_range] at h
  obtain ⟨⟨h1, h2⟩, h3⟩ := h
  have hstep : ∀ d i, i + d + 1 < l.length → key17 l i < key17 l (i + d + 1) := fun d => by
    induction d with
    | zero =>
      intro i hi
      have := (at17_yes.1 (h3 (i + 1) (by omega))).2.2.1
      rcases this with h | h
      · omega
      · simpa using h
    | succ d ih =>
      intro i hi
      have a := ih i (by omega)
      have b := (at17_yes.1 (h3 (i + (d + 1) + 1) hi)).2.2.1
      rcases b with b | b
      · omega
      · have e : i + (d + 1) + 1 - 1 = i + d + 1 := by omega
        rw [e] at b
        exact Int.lt_trans a b
  refine ⟨rfl, by omega, h2, fun e he => ?_, ?_, fun e he => ?_⟩
  · obtain ⟨i, hi, rfl⟩ := List.getElem_of_mem he
    have := at17_yes.1 (h3 i hi)
    rw [key17_at hi] at this
    exact ⟨this.1, this.2.1⟩
  · refine List.pairwise_iff_getElem.2 fun i j hi hj hij => ?_
    have := hstep (j - i - 1) i (by omega)
    rw [show i + (j - i - 1) + 1 = j by omega, key17_at hi, key17_at hj] at this
    exact this
  · obtain ⟨i, hi, rfl⟩ := List.getElem_of_mem he
    have := (at17_yes.1 (h3 i hi)).2.2.2
    rwa [val17_at hi] at this
theorem rightB17_no {tree : Int} {l : List Ent17} {i : Nat} (hi : i < l.length) (h : at17 (widN tree true) l i = false) : rightB17 tree l = false := by
  cases hb : rightB17 tree l with
  | false => rfl
  | true =>
    simp only [rightB17, Bool.and_eq_true, decide_eq_true_eq, List.all_eq_true, List.mem_range] at hb
    rw [hb.2 i hi] at h
    cases h
theorem rightB17_of {tree : Int} {l : List Ent17} (h1 : capN (widN tree true) ≠ 0) (h2 : l.length ≤ 32768) (h3 : ∀ i, i < l.length → at17 (widN tree true) l i = true) : rightB17 tree l = true := by
  simp only [rightB17, Bool.and_eq_true, decide_eq_true_eq, List.all_eq_true, List.mem_range]
  exact ⟨⟨h1, h2⟩, h3⟩

/-- what Tree answers and leaves: its error's code, the root, how many blocks are taken, the image -/
structure Out17 where
  x : Int
  root : Int
  t : Nat
  L : List UInt8
def outB17 (q : Nat) (tree : Int) (bs : List Int) (l : List Ent17) (t : Nat) (L : List UInt8) : Out17 :=
  if rightB17 tree l = false then ⟨1, 0, t, L⟩
  else if ((bs.length - t : Nat) : Int) < (lev15 l.length (capN (widN tree true))).sum then ⟨14, 0, t, L⟩
  else ⟨0, (bldB17 q tree (capN (widN tree true)) bs l t L).1, (bldB17 q tree (capN (widN tree true)) bs l t L).2.1, (bldB17 q tree (capN (widN tree true)) bs l t L).2.2⟩
theorem outB17_arg {q : Nat} {tree : Int} {bs : List Int} {l : List Ent17} {t : Nat} {L : List UInt8} (h : rightB17 tree l = false) : outB17 q tree bs l t L = ⟨1, 0, t, L⟩ := by rw [outB17, if_pos h]
theorem outB17_space {q : Nat} {tree : Int} {bs : List Int} {l : List Ent17} {t : Nat} {L : List UInt8} (h : rightB17 tree l = true) (h2 : ((bs.length - t : Nat) : Int) < (lev15 l.length (capN (widN tree true))).sum) : outB17 q tree bs l t L = ⟨14, 0, t, L⟩ := by rw [outB17, if_neg (by rw [h]; decide), if_pos h2]
theorem outB17_good {q : Nat} {tree : Int} {bs : List Int} {l : List Ent17} {t : Nat} {L : List UInt8} (h : rightB17 tree l = true) (h2 : (lev15 l.length (capN (widN tree true))).sum ≤ ((bs.length - t : Nat) : Int)) :
    outB17 q tree bs l t L = ⟨0, (bldB17 q tree (capN (widN tree true)) bs l t L).1, (bldB17 q tree (capN (widN tree true)) bs l t L).2.1, (bldB17 q tree (capN (widN tree true)) bs l t L).2.2⟩ := by rw [outB17, if_neg (by rw [h]; decide), if_neg (by omega)]
/-- just as many as the tree has nodes -/
theorem levL15_right {tree : Int} {l : List Ent17} (h : rightB17 tree l = true) : levL15 (capN (widN tree true)) (l.length : Int) = lev15 l.length (capN (widN tree true)) := by
  have hr := rightB17_yes h
  have h1 := hr.pos
  have h2 := hr.few
  rw [levL15_some (by simp [some15]; omega), Int.toNat_natCast]
end Go.Proofs.YtnjlganofjkpfaaGreat

/-
  Layer 17's mathematics: the levels one after the other, as either side writes them.
-/
namespace Go.Proofs.YtnjlganofjkpfaaGreat
open Go.RowKit
set_option linter.unusedVariables false
set_option linter.unusedSimpArgs false

/-- how many entries a node of level i takes -/
def lvM17 (m i : Nat) : Nat := if i = 0 then m else 18
/-- behind i levels: the entries that the next one takes, how many blocks are taken, the image -/
def Lvl17 (q : Nat) (tree : Int) (m : Nat) (bs : List Int) (l : List Ent17) (t0 : Nat) (L0 : List UInt8) (i : Nat) (li : List Ent17) (t : Nat) (L : List UInt8) : Prop :=
  (i = 0 ∧ li = l ∧ t = t0 ∧ L = L0) ∨ (1 ≤ i ∧ ∃ ks h, li = ks.map kE17 ∧ Lv17 q tree bs t0 L h t ks ∧ 1 ≤ h ∧ 0 < ks.length ∧ (1 < ks.length → ∀ c ∈ ks, c.es ≠ []) ∧ (t : Int) + (up15 ks.length).sum ≤ (bs.length : Int) ∧ topB17 q tree bs li t L = bldB17 q tree m bs l t0 L0 ∧ i + (up15 ks.length).length = (lev15 l.length m).length ∧ ks.length ≤ 32768)

section
variable {q : Nat} {tree : Int} {m : Nat} {bs : List Int} {l : List Ent17} {t0 : Nat} {L0 : List UInt8} {i : Nat} {li : List Ent17} {t : Nat} {L : List UInt8}
theorem Lvl17.zero : Lvl17 q tree m bs l t0 L0 0 l t0 L0 := .inl ⟨rfl, rfl, rfl, rfl⟩
/-- what writes a level -/
structure LvF17 (q : Nat) (tree : Int) (bs : List Int) (leaf : Bool) (mm : Nat) (li : List Ent17) (t : Nat) (L : List UInt8) : Prop where
  cap : capN (widN tree leaf) = mm
  pos : 1 ≤ mm
  few : li.length ≤ 32768
  len : L.length = q * 256
  right : ∀ k, k < fil15 li.length mm → rightN (nodB17 tree leaf mm li k) = true
  room : t + fil15 li.length mm ≤ bs.length
/-- one level more -/
theorem Lvl17.step (h : Lvl17 q tree m bs l t0 L0 i li t L) (hR : R17 tree m l) (hB : Bs17 q bs) (hL : L0.length = q * 256) (hf : (t0 : Int) + (lev15 l.length m).sum ≤ (bs.length : Int)) (hi : i < (lev15 l.length m).length) :
    LvF17 q tree bs (decide (i = 0)) (lvM17 m i) li t L ∧ (i = 0 ∨ 1 < li.length) ∧ Lvl17 q tree m bs l t0 L0 (i + 1) (upL17 (lvM17 m i) li bs t (fil15 li.length (lvM17 m i))) (t + fil15 li.length (lvM17 m i)) (levW17 q tree (decide (i = 0)) (lvM17 m i) li bs t (fil15 li.length (lvM17 m i)) L) := by
  have hpos := (up15_sum _ _ (Nat.le_refl (fil15 l.length m)) (fil15_pos _ _)).1
  rcases h with ⟨rfl, rfl, rfl, rfl⟩ | ⟨h1, ks, h, rfl, hv, hh, hp, hn, hs, ht, he, hk⟩
  · have e : lvM17 m 0 = m := rfl
    have ed : decide (0 = 0) = true := rfl
    have hf2 : (t : Int) + (fil15 li.length m : Int) + (up15 (fil15 li.length m)).sum ≤ (bs.length : Int) := by rw [lev15, List.sum_cons] at hf; omega
    obtain ⟨s1, s2, s3⟩ := leafs17_level hR hB hL (t := t) (by omega)
    have hfl := fil15_le (n := li.length) hR.pos
    have hfw := hR.few
    rw [e, ed]
    refine ⟨⟨hR.cap, hR.pos, hR.few, hL, fun k _ => nodB17_leaf hR k, by omega⟩, .inl rfl, .inr ⟨Nat.le_refl _, leafs17 tree m bs t li, 1, up17_leafs hR.pos, s1, Nat.le_refl _, by rw [leafs17_length]; exact fil15_pos _ _, fun h1 => ?_, by rw [leafs17_length]; push_cast; omega, rfl, by rw [leafs17_length, lev15, List.length_cons]; omega, by rw [leafs17_length]; omega⟩⟩
    rcases s3 with h3 | h3
    · exact s2 h3
    · omega
  · have hl : 1 < ks.length := by
      apply Classical.byContradiction
      intro h0
      rw [up15_one h0] at he
      simp at he
      omega
    have e : lvM17 m i = 18 := by unfold lvM17; rw [if_neg (by omega)]
    have ed : decide (i = 0) = false := decide_eq_false (by omega)
    have hlt := fil15_lt hl
    have hmore := up15_more hl
    rw [hmore, List.sum_cons] at hs
    rw [hmore, List.length_cons] at he
    have hpos2 := (up15_sum _ _ (Nat.le_refl (fil15 ks.length 18)) (fil15_pos _ _)).1
    have ht5 := hR.tree_
    obtain ⟨s1, s2, s3⟩ := hv.step hB ht5 (hn hl) hp (by omega) hh
    have hcap : capN (widN tree false) = 18 := by
      have hw : widN tree false = 4 := by unfold widN; rw [if_neg (by omega), if_pos rfl]
      rw [hw]; rfl
    rw [e, ed]
    rw [List.length_map]
    refine ⟨⟨hcap, by omega, by rw [List.length_map]; omega, hv.len, fun k hk2 => nodB17_inner ht5 (hn hl) hv.up hv.rng hp (by rw [List.length_map] at hk2; exact hk2), by rw [List.length_map]; omega⟩, .inr hl, .inr ⟨by omega, nxts17 bs t ks, h + 1, ?_, s1, by omega, by rw [nxts17_length]; exact fil15_pos _ _, fun _ => s2, by rw [nxts17_length]; push_cast; omega, ?_, by rw [nxts17_length]; omega, by rw [nxts17_length]; omega⟩⟩
    · have := up17_entries (t := t) (bs := bs) (hn hl) hp
      rw [List.length_map] at this
      exact this
    · rw [← ht, topB17_more (l := ks.map kE17) (by rw [List.length_map]; exact hl), List.length_map]
/-- behind the last level -/
theorem Lvl17.last (h : Lvl17 q tree m bs l t0 L0 i li t L) (hi : i = (lev15 l.length m).length) : bldB17 q tree m bs l t0 L0 = (bs.getD (t - 1) 0, t, L) ∧ li.length = 1 := by
  have h0 : 0 < (lev15 l.length m).length := by rw [lev15, List.length_cons]; omega
  rcases h with ⟨rfl, _⟩ | ⟨h1, ks, h, rfl, hv, hh, hp, hn, hs, ht, he, hk⟩
  · omega
  · have hl : ¬ 1 < ks.length := fun h => by rw [up15_more h, List.length_cons] at he; omega
    have hr := bldB17_root q tree m bs l t0 L0
    have ht2 := ht
    rw [topB17_one (by rw [List.length_map]; exact hl)] at ht2
    rw [← ht2] at hr
    simp only at hr
    rw [← ht2, hr]
    exact ⟨rfl, by rw [List.length_map]; omega⟩
/-- it is the last level just where one node is written -/
theorem Lvl17.one (h : Lvl17 q tree m bs l t0 L0 i li t L) (hi : 1 ≤ i) : li.length = 1 ↔ i = (lev15 l.length m).length := by
  refine ⟨fun h1 => ?_, fun h1 => (h.last h1).2⟩
  rcases h with ⟨rfl, _⟩ | ⟨_, ks, h, rfl, hv, hh, hp, hn, hs, ht, he, hk⟩
  · omega
  · rw [List.length_map] at h1
    rw [up15_one (by omega)] at he
    simpa using he
end

/-! ### the entries of the level above, as the program keeps them -/
def upP17 (m : Nat) (l : List Ent17) (bs : List Int) (t k : Nat) : List Ent17 := if l = [] then [] else (List.range k).map fun j => (((l.drop (j * m)).headD (0, [], 0)).1, encN 4 (bs.getD (t + j) 0).toNat, 0)
theorem upP17_zero (m : Nat) (l : List Ent17) (bs : List Int) (t : Nat) : upP17 m l bs t 0 = [] := by unfold upP17; split <;> rfl
theorem upP17_nil (m : Nat) (bs : List Int) (t k : Nat) : upP17 m [] bs t k = [] := if_pos rfl
theorem upP17_succ {l : List Ent17} (h : l ≠ []) (m : Nat) (bs : List Int) (t k : Nat) : upP17 m l bs t (k + 1) = upP17 m l bs t k ++ [(((l.drop (k * m)).headD (0, [], 0)).1, encN 4 (bs.getD (t + k) 0).toNat, 0)] := by
  unfold upP17
  rw [if_neg h, if_neg h, List.range_succ, List.map_append]
  rfl
theorem upP17_le (m : Nat) (l : List Ent17) (bs : List Int) (t k : Nat) : (upP17 m l bs t k).length ≤ k := by unfold upP17; split <;> simp
theorem upP17_kv {l : List Ent17} (h : l ≠ []) (m : Nat) (bs : List Int) (t k : Nat) : (upP17 m l bs t k).map kv17 = (upL17 m l bs t k).map kv17 := by
  unfold upP17 upL17
  rw [if_neg h, List.map_map, List.map_map]
  rfl

/-! ### what is written does not tell the entries' blocks -/
theorem kv17_keys {a b : List Ent17} (h : a.map kv17 = b.map kv17) : a.map (·.1) = b.map (·.1) := by
  have := congrArg (List.map Prod.fst) h
  rw [List.map_map, List.map_map] at this
  exact this
theorem kv17_vals {a b : List Ent17} (h : a.map kv17 = b.map kv17) : a.map (·.2.1) = b.map (·.2.1) := by
  have := congrArg (List.map Prod.snd) h
  rw [List.map_map, List.map_map] at this
  exact this
theorem kv17_length {a b : List Ent17} (h : a.map kv17 = b.map kv17) : a.length = b.length := by
  have := congrArg List.length h
  rwa [List.length_map, List.length_map] at this
theorem nodB17_kv {a b : List Ent17} (h : a.map kv17 = b.map kv17) (tree : Int) (leaf : Bool) (m k : Nat) : nodB17 tree leaf m a k = nodB17 tree leaf m b k := by
  unfold nodB17
  rw [List.map_take, List.map_drop, kv17_keys h, List.map_take, List.map_drop, kv17_vals h, List.map_take, List.map_drop, List.map_take, List.map_drop]
theorem levW17_kv {a b : List Ent17} (h : a.map kv17 = b.map kv17) (q : Nat) (tree : Int) (leaf : Bool) (m : Nat) (bs : List Int) (t : Nat) : ∀ (k : Nat) (L : List UInt8), levW17 q tree leaf m a bs t k L = levW17 q tree leaf m b bs t k L
  | 0, _ => rfl
  | k + 1, L => by rw [levW17, levW17, levW17_kv h q tree leaf m bs t k L, nodB17_kv h]
theorem head17_kv {a b : List Ent17} (h : a.map kv17 = b.map kv17) (j : Nat) : ((a.drop j).headD (0, [], 0)).1 = ((b.drop j).headD (0, [], 0)).1 := by
  have e : ∀ c : List Ent17, ((c.drop j).headD (0, [], 0)).1 = ((c.map (·.1)).drop j).headD 0 := fun c => by
    rw [← List.map_drop]
    cases c.drop j <;> rfl
  rw [e, e, kv17_keys h]
theorem upL17_kv {a b : List Ent17} (h : a.map kv17 = b.map kv17) (m : Nat) (bs : List Int) (t k : Nat) : upL17 m a bs t k = upL17 m b bs t k := by
  unfold upL17
  refine List.map_congr_left fun j _ => ?_
  unfold upE17
  rw [head17_kv h]
theorem LvF17.kv {a b : List Ent17} {q : Nat} {tree : Int} {bs : List Int} {leaf : Bool} {mm t : Nat} {L : List UInt8} (hf : LvF17 q tree bs leaf mm b t L) (h : a.map kv17 = b.map kv17) : LvF17 q tree bs leaf mm a t L :=
  ⟨hf.cap, hf.pos, by rw [kv17_length h]; exact hf.few, hf.len, fun k hk => by rw [nodB17_kv h]; rw [kv17_length h] at hk; exact hf.right k hk, by rw [kv17_length h]; exact hf.room⟩
end Go.Proofs.YtnjlganofjkpfaaGreat

/-
  Layer 17: entries cut; right.
-/
namespace Go.Proofs.YtnjlganofjkpfaaGreat
open Go.RowKit
set_option linter.unusedVariables false
set_option linter.unusedSimpArgs false

theorem info_ent17 : (Tryz.prog.info? 26).map (fun i => (i.zero, i.size, i.bytes)) = some (some (.agg #[.int .i64 0, .string ByteArray.empty, .int .i64 0]), 3, 32) := by kernel_rfl
theorem size_ent17 (V : World) : (sizeOf 26).run Tryz.prog V = .ok 3 V := by
  obtain ⟨i0, hi0, _, hz1, _⟩ := info_parts info_ent17
  simp [sizeOf, typeInfo, hi0, hz1]
theorem elem_ent17 : Tryz.prog.elem 23 = 26 := by kernel_rfl

/-! ### entries, cut -/
theorem entC_drop : ∀ (l : List Ent17) (k : Nat), (entC l).drop (k * 3) = entC (l.drop k)
  | l, 0 => by simp
  | [], k + 1 => by simp [entC]
  | x :: r, k + 1 => by
    rw [show (k + 1) * 3 = k * 3 + 1 + 1 + 1 by omega, List.drop_succ_cons, ← entC_drop r k]
    simp [entC]
theorem entC_take : ∀ (l : List Ent17) (k : Nat), (entC l).take (k * 3) = entC (l.take k)
  | l, 0 => by simp [entC]
  | [], k + 1 => by simp [entC]
  | x :: r, k + 1 => by
    rw [show (k + 1) * 3 = k * 3 + 1 + 1 + 1 by omega, List.take_succ_cons]
    have := entC_take r k
    simp [entC] at *
    exact this
/-- from entry t on -/
theorem cut_fromE17 {w : World} {A : Option Addr} {n c : Nat} {l : List Ent17} (h : Ens w A n c l) {t : Nat} (ht : t ≤ n) :
    ∃ A2, (∀ V, (Instr.slice 23 (.slice A n c) (some (.int .i64 (t : Int))) none none).run Tryz.prog V = .ok (.slice A2 (n - t) (c - t)) V) ∧ Ens w A2 (n - t) (c - t) (l.drop t) ∧ ∀ ad, A2 = some ad → ∃ ad', A = some ad' ∧ ad.block = ad'.block := by
  have hlen := h.len
  have hcap := h.cap
  have hmost := h.most
  refine ⟨if c = t then A else A.map (·.add (t * 3)), fun V => ?_, ⟨by simp [hlen], by omega, by omega, ?_⟩, fun ad e => ?_⟩
  · rw [run_slice_l (P := Tryz.prog) (w := V) (t := 23) (a := A) (len := n) (cap := c) (ht := by rw [elem_ent17]; exact Tryz.underlying23) (kl := .i64) (l := (t : Int)) (h0 := by omega) (h1 := by omega), elem_ent17, size_ent17]
    simp only [Result.andThen, sliced, Int.toNat_natCast]
  · by_cases e : c = t
    · rw [if_pos e, List.drop_eq_nil_of_le (by omega)]
      exact Row.nil _ _
    · rw [if_neg e]
      have := h.row.drop (t * 3)
      rwa [entC_drop] at this
  · split at e
    · exact ⟨ad, e, rfl⟩
    · cases A with
      | none => simp at e
      | some a => exact ⟨a, rfl, by simp at e; rw [← e]; exact addr_add_block a _⟩
/-- the first k entries -/
theorem cut_toE17 {w : World} {A : Option Addr} {n c : Nat} {l : List Ent17} (h : Ens w A n c l) {k : Nat} (hk : k ≤ n) :
    (∀ V, (Instr.slice 23 (.slice A n c) none (some (.int .i64 (k : Int))) none).run Tryz.prog V = .ok (.slice A k c) V) ∧ Ens w A k c (l.take k) := by
  have hlen := h.len
  have hcap := h.cap
  have hmost := h.most
  refine ⟨fun V => ?_, ⟨by simp [hlen]; omega, by omega, hmost, ?_⟩⟩
  · rw [run_slice_h (P := Tryz.prog) (w := V) (t := 23) (a := A) (len := n) (cap := c) (ht := by rw [elem_ent17]; exact Tryz.underlying23) (kh := .i64) (h := (k : Int)) (h0 := by omega) (h2 := by omega), elem_ent17, size_ent17]
    have e : (if c = 0 then A else A.map (·.add 0)) = A := by
      split
      · rfl
      · cases A with
        | none => rfl
        | some a => simp [Addr.add]
    simp only [Result.andThen, sliced, Int.toNat_natCast, Nat.sub_zero, Nat.zero_mul, e]
  · have := h.row.take (k * 3)
    rwa [entC_take] at this

/-- one entry in a block of its own -/
def EntAt (w : World) (p : Nat) (k : Int) (s : ByteArray) (a : Int) : Prop := w.heap[p]? = some (Obj.cells #[.int .i64 k, .string s, .int .i64 a] 26 (0, 0))
theorem EntAt.new (w : World) (k : Int) (s : ByteArray) (a : Int) : EntAt (w.alloc (.cells #[.int .i64 k, .string s, .int .i64 a] 26)) w.heap.size k s a := heap_alloc_new w _
section
variable {w w' : World} {p : Nat} {k : Int} {s : ByteArray} {a : Int}
theorem EntAt.cs (h : EntAt w p k s a) : w.cell? ⟨p, 0, none⟩ = some (.int .i64 k) ∧ w.cell? ⟨p, 1, none⟩ = some (.string s) ∧ w.cell? ⟨p, 2, none⟩ = some (.int .i64 a) :=
  ⟨by rw [cell_of_row w p 0 _ _ _ h]; rfl, by rw [cell_of_row w p 1 _ _ _ h]; rfl, by rw [cell_of_row w p 2 _ _ _ h]; rfl⟩
theorem EntAt.later (h : EntAt w p k s a) (hb : Below w.heap.size w w') : EntAt w' p k s a := (hb.block _ (block_lt h)).trans h
end

/-! ### right -/
/-- the least key that entry k may have -/
def lst17 (l : List Ent17) (k : Nat) : Int := if k = 0 then 0 else key17 l (k - 1) + 1
theorem lst17_succ (l : List Ent17) (k : Nat) : lst17 l (k + 1) = key17 l k + 1 := by rw [lst17, if_neg (by omega)]; rfl
theorem lst17_pos {wd : Nat} {l : List Ent17} {k : Nat} (h : ∀ j, j < k → at17 wd l j = true) : 0 ≤ lst17 l k := by
  unfold lst17
  split
  · exact Int.le_refl _
  · have := (at17_yes.1 (h (k - 1) (by omega))).1
    omega
theorem at17_step {wd : Nat} {l : List Ent17} {k : Nat} (h : ∀ j, j < k → at17 wd l j = true) : at17 wd l k = true ↔ ¬ key17 l k < lst17 l k ∧ key17 l k ≤ maxK ∧ (val17 l k).length = wd := by
  have h0 := lst17_pos h
  rw [at17_yes]
  unfold lst17 at *
  by_cases hk : k = 0
  · subst hk
    simp only [if_true] at *
    constructor
    · rintro ⟨a, b, _, d⟩; exact ⟨by omega, b, d⟩
    · rintro ⟨a, b, d⟩; exact ⟨by omega, b, by simp, d⟩
  · rw [if_neg hk] at *
    constructor
    · rintro ⟨a, b, c, d⟩; exact ⟨by omega, b, d⟩
    · rintro ⟨a, b, d⟩; exact ⟨by omega, b, .inr (by omega), d⟩

/-- the bounds of entries that came in -/
def EntB (l : List Ent17) : Prop := ∀ q ∈ l, (-9223372036854775808 ≤ q.1 ∧ q.1 ≤ 9223372036854775807) ∧ q.2.1.length ≤ 9223372036854775807

set_option maxRecDepth 100000 in
set_option maxHeartbeats 1600000 in
theorem right_any17 (tree : Int) {A : Option Addr} {n c : Nat} {l : List Ent17} (w : World) (h : Ens w A n c l) (hB : EntB l) :
    Calls Tryz.prog 15 #[.int .i64 tree, .slice A n c] w fun e w' => e = .returned (.bool (rightB17 tree l)) ∧ Below w.heap.size w w' := by
  have hlen := h.len
  have NO := Lib.hid (Nodes_any15 tree n (capN (widN tree true)) rfl w)
  have hcap := h.cap
  have hmost := h.most
  by_cases hz : capN (widN tree true) ≠ 0 ∧ n ≤ 32768
  · obtain ⟨hz1, hz2⟩ := hz
    have hs : levL15 (capN (widN tree true)) (n : Int) = lev15 n (capN (widN tree true)) := by
      rw [levL15_some (by simp [some15]; omega), Int.toNat_natCast]
    rw [hs] at NO
    have hsum := (lev15_sum n (capN (widN tree true))).1
    obtain ⟨sm, hsm⟩ : ∃ sm, (lev15 n (capN (widN tree true))).sum = sm := ⟨_, rfl⟩
    rw [hsm] at NO hsum
    have hne : (sm == 0) = false := by simp; omega
    have WD : Hid (∀ W, Calls Tryz.prog 28 #[.int .i64 tree, .bool true] W fun e w' => e = .returned (.int .i64 (widN tree true : Int)) ∧ w' = W) := fun W => (Width_any tree true W (widN tree true) rfl).mono fun e w' h => ⟨h.1, h.2.symm⟩
    have NOT := Lib.hid (fun k (hk : k < n) (ha : at17 (widN tree true) l k = false) => rightB17_no (tree := tree) (l := l) (by omega) ha)
    have YES := Lib.hid (fun (ha : ∀ i, i < n → at17 (widN tree true) l i = true) => rightB17_of hz1 (by omega) (fun i hi => ha i (by omega)))
    have HE := Lib.hid h
    have HBB := Lib.hid hB
    have hlen2 := Lib.hid hlen
    clear hs hsm hz1 h hB hlen
    generalize rightB17 tree l = R at *
    generalize widN tree true = wd at *
    generalize capN wd = cp at *
    go_enter Tryz.func15, Tryz.ntmps15
    go_wp2_with (go_at_call 10; (with_reducible refine (NO.out).mono ?_); rintro e w1 ⟨rfl, hb1⟩)
    have HB1 := Lib.hid hb1
    clear hb1 NO hne hsum
    go_loopw [5, 15] (fun s i wr => ∃ k : Nat, k ≤ n ∧ i = .int .i64 k ∧ (∃ x : Int, s = .int .i64 x ∧ Hid (x = lst17 l k)) ∧ Hid (∀ j, j < k → at17 wd l j = true) ∧ Hid (Below w.heap.size w wr)) (fun _ i _ => n - (intOf i).toNat)
    case atStart => exact ⟨0, by omega, rfl, ⟨0, rfl, rfl⟩, fun j hj => by omega, HB1⟩
    case round =>
      clear HB1
      obtain ⟨k, hk, rfl, ⟨x, rfl, hx⟩, hat, hb⟩ := hrel
      by_cases hlt : k < n
      · have hkl : k < l.length := by have := hlen2.out; omega
        obtain ⟨b, off, hA, c0, c1, c2⟩ := (HE.out.below (hb.out.mono (Nat.le_refl _))).at_ (k := k) hlt
        subst hA
        have c1b := c1
        have c2b := c2
        rw [← Nat.add_assoc] at c1b c2b
        have hbd := HBB.out _ (List.getElem_mem hkl)
        have hkk : Hid (key17 l k = l[k].1) := key17_at hkl
        have hkv : Hid (val17 l k = l[k].2.1) := val17_at hkl
        have hst := Lib.hid (at17_step hat.out)
        rw [hkk.out, hkv.out, ← hx.out] at hst
        have hsc := Lib.hid (lst17_succ l k)
        rw [hkk.out] at hsc
        obtain ⟨⟨b1, b2⟩, b3⟩ := hbd
        clear hkk hkv
        generalize l[k].1 = key at *
        generalize l[k].2.1 = vl at *
        generalize l[k].2.2 = aa at *
        clear hkl
        have hsz : (⟨vl.toArray⟩ : ByteArray).size = vl.length := by simp [ByteArray.size]
        obtain ⟨y, hy⟩ : ∃ y : ByteArray, y = ⟨vl.toArray⟩ := ⟨_, rfl⟩
        rw [← hy] at c1 c1b hsz
        clear hy
        have hE := EntAt.new wr key y aa
        obtain ⟨e0, e1, e2⟩ := hE.cs
        have hbe : Below w.heap.size w (wr.alloc (.cells #[.int .i64 key, .string y, .int .i64 aa] 26)) := hb.out.alloc hb.out.size _
        have HBE := Lib.hid hbe
        clear hE hbe
        by_cases g1 : key < x
        · have hn : Hid (at17 wd l k = false) := by
            show _ = _
            rw [Bool.eq_false_iff]
            exact fun h => (hst.out.1 h).1 g1
          clear hst hsc
          go_wp2
          go_quiet (fail)
          go_wp2
          go_ret
          exact ⟨by rw [NOT.out k hlt hn.out]; rfl, below_drewN HBE.out _⟩
        · by_cases g2 : 281474976710655 < key
          · have hn : Hid (at17 wd l k = false) := by
              show _ = _
              rw [Bool.eq_false_iff]
              intro h
              have := (hst.out.1 h).2.1
              have e : maxK = 281474976710655 := rfl
              omega
            clear hst hsc
            go_wp2
            go_quiet (fail)
            go_wp2
            go_ret
            exact ⟨by rw [NOT.out k hlt hn.out]; rfl, below_drewN HBE.out _⟩
          · by_cases g3 : vl.length = wd
            · have hn : Hid (at17 wd l k = true) := hst.out.2 ⟨g1, by have e : maxK = 281474976710655 := rfl; omega, g3⟩
              have hw : wrap64 (key + 1) = key + 1 := by unfold wrap64; omega
              clear hst
              go_wp2
              go_quiet (first | (go_at_call 28; refine Calls.quiet_of_same (WD.out _)))
              go_wp2
              go_roundw
              case rel => exact ⟨k + 1, by omega, by go_num, ⟨key + 1, by first | rfl | exact congrArg _ hw, hsc.out.symm⟩, fun j hj => by
                by_cases e : j = k
                · rw [e]; exact hn.out
                · exact hat.out j (by omega), below_drewN HBE.out _⟩
              case measure => simp [intOf]; omega
            · have hn : Hid (at17 wd l k = false) := by
                show _ = _
                rw [Bool.eq_false_iff]
                exact fun h => g3 (hst.out.1 h).2.2
              have hq : ((vl.length : Int) != (wd : Int)) = true := by simp; omega
              clear hst hsc
              go_wp2
              go_quiet (first | (go_at_call 28; refine Calls.quiet_of_same (WD.out _)))
              go_wp2
              go_ret
              exact ⟨by rw [NOT.out k hlt hn.out]; rfl, below_drewN HBE.out _⟩
      · obtain rfl : k = n := by omega
        go_wp2
        go_ret
        exact ⟨by rw [YES.out hat.out]; rfl, hb.out⟩
  · have hs : levL15 (capN (widN tree true)) (n : Int) = [] := levL15_none (decide_eq_false fun h => hz ⟨h.1, by have := h.2.2; omega⟩)
    rw [hs] at NO
    have hR : rightB17 tree l = false := by
      cases e : rightB17 tree l with
      | false => rfl
      | true =>
        simp only [rightB17, Bool.and_eq_true, decide_eq_true_eq] at e
        exact absurd ⟨e.1.1, by have := e.1.2; omega⟩ hz
    rw [hR]
    clear hz hs hR
    go_enter Tryz.func15, Tryz.ntmps15
    go_wp2_with (go_at_call 10; (with_reducible refine (NO.out).mono ?_); rintro e w1 ⟨rfl, hb1⟩)
    go_ret
    exact ⟨rfl, hb1⟩
end Go.Proofs.YtnjlganofjkpfaaGreat

/-
  Layer 14's mathematics: a node that is its own child, as WalkLoops makes it.
-/
namespace Go.Proofs.YtnjlganofjkpfaaGreat
open Go.RowKit
set_option linter.unusedVariables false
set_option linter.unusedSimpArgs false

end Go.Proofs.YtnjlganofjkpfaaGreat
