/-
  Layer 7's mathematics: nodes, their bytes, and what bytes are a node's.
-/
import Derived.Test.YtlobmefcpjjbcaaCodeL
namespace Go.Proofs.Ytlobmefcpjjbcaa
open Go.RowKit
set_option linter.unusedVariables false
set_option linter.unusedSimpArgs false

/-! ### pieces of one size -/
theorem nod_encN_back (l : List UInt8) : encN l.length (leN l) = l := by
  induction l with
  | nil => rfl
  | cons b r ih =>
    have hb := UInt8.toNat_lt b
    have e1 : (b.toNat + 256 * leN r) / 256 = leN r := by omega
    simp only [List.length_cons, leN, encN, e1, ih]
    congr 1
    apply UInt8.toNat_inj.1
    simp

theorem flat_length {α : Type} {c : Nat} : ∀ {ps : List (List α)}, (∀ p ∈ ps, p.length = c) → ps.flatten.length = c * ps.length
  | [], _ => by simp
  | p :: r, h => by
    rw [List.flatten_cons, List.length_append, h p (by simp), flat_length fun q hq => h q (by simp [hq]), List.length_cons, Nat.mul_add, Nat.mul_one, Nat.add_comm]

theorem piece_at {α : Type} {c : Nat} : ∀ {ps : List (List α)}, (∀ p ∈ ps, p.length = c) → ∀ (i : Nat) (h : i < ps.length), (ps.flatten.drop (c * i)).take c = ps[i]
  | [], _, i, h => by simp at h
  | p :: r, h, i, hi => by
    have hp := h p (by simp)
    cases i with
    | zero =>
      rw [Nat.mul_zero, List.drop_zero, List.flatten_cons, List.take_append_of_le_length (by omega), List.take_of_length_le (by omega)]
      rfl
    | succ i =>
      have ih := piece_at (ps := r) (fun q hq => h q (by simp [hq])) i (by simpa using hi)
      rw [List.flatten_cons, show c * (i + 1) = p.length + c * i by rw [hp, Nat.mul_add, Nat.mul_one, Nat.add_comm], List.drop_append, List.drop_of_length_le (by omega), List.nil_append, show p.length + c * i - p.length = c * i by omega, ih]
      rfl

theorem pieces_back {α : Type} {c : Nat} : ∀ (n : Nat) (l : List α), l.length = c * n → ((List.range n).map fun i => (l.drop (c * i)).take c).flatten = l
  | 0, l, h => by
    have : l = [] := List.eq_nil_of_length_eq_zero (by simpa using h)
    subst this; rfl
  | n + 1, l, h => by
    have hl : (l.drop c).length = c * n := by rw [List.length_drop, h, Nat.mul_add, Nat.mul_one]; omega
    have ih := pieces_back n (l.drop c) hl
    rw [List.range_succ_eq_map, List.map_cons, List.map_map, List.flatten_cons, Nat.mul_zero, List.drop_zero]
    have e : (List.range n).map ((fun i => (l.drop (c * i)).take c) ∘ Nat.succ) = (List.range n).map fun i => ((l.drop c).drop (c * i)).take c := by
      apply List.map_congr_left
      intro i _
      simp only [Function.comp_apply, List.drop_drop, Nat.succ_eq_add_one, Nat.mul_add, Nat.mul_one]
      rw [Nat.add_comm]
    rw [e, ih, List.take_append_drop]

/-! ### nodes -/
structure Nod where
  tree : Int
  leaf : Bool
  keys : List Int
  vals : List (List UInt8)

def Nod.zero : Nod := ⟨0, false, [], []⟩

/-- the value width, and the capacity -/
def widN (tree : Int) (leaf : Bool) : Nat :=
  if tree < 1 ∨ 5 < tree then 0 else if leaf = false then 4 else if tree = 2 then 8 else if tree = 3 then 24 else if tree = 4 then 16 else 4
def capN (w : Nat) : Nat := if w = 4 then 18 else if w = 8 then 12 else if w = 16 then 9 else if w = 24 then 6 else 0

theorem widN_cases (tree : Int) (leaf : Bool) : (widN tree leaf = 0 ∧ capN (widN tree leaf) = 0) ∨ (widN tree leaf = 4 ∧ capN (widN tree leaf) = 18) ∨ (widN tree leaf = 8 ∧ capN (widN tree leaf) = 12) ∨ (widN tree leaf = 24 ∧ capN (widN tree leaf) = 6) ∨ (widN tree leaf = 16 ∧ capN (widN tree leaf) = 9) := by
  unfold widN
  split
  · exact .inl ⟨rfl, rfl⟩
  · split
    · exact .inr (.inl ⟨rfl, rfl⟩)
    · split
      · exact .inr (.inr (.inl ⟨rfl, rfl⟩))
      · split
        · exact .inr (.inr (.inr (.inl ⟨rfl, rfl⟩)))
        · split
          · exact .inr (.inr (.inr (.inr ⟨rfl, rfl⟩)))
          · exact .inr (.inl ⟨rfl, rfl⟩)

theorem widN_tree {tree : Int} {leaf : Bool} (h : widN tree leaf ≠ 0) : 1 ≤ tree ∧ tree ≤ 5 := by
  unfold widN at h
  split at h
  · exact absurd rfl h
  · omega

def maxK : Int := 281474976710655

/-- strictly increasing, above p, no greater than the greatest key -/
def upFrom (p : Int) : List Int → Bool
  | [] => true
  | k :: r => decide (p < k) && decide (k ≤ maxK) && upFrom k r

theorem upFrom_bounds : ∀ {p : Int} {l : List Int}, upFrom p l = true → ∀ k ∈ l, p < k ∧ k ≤ maxK
  | _, [], _, k, hk => by simp at hk
  | p, x :: r, h, k, hk => by
    simp only [upFrom, Bool.and_eq_true, decide_eq_true_eq] at h
    rcases List.mem_cons.1 hk with rfl | hk
    · exact h.1
    · have := upFrom_bounds h.2 k hk
      omega

def rightN (n : Nod) : Bool :=
  decide (widN n.tree n.leaf ≠ 0) && decide (n.keys.length ≤ capN (widN n.tree n.leaf)) && decide (n.vals.length = n.keys.length) && n.vals.all (fun v => v.length == widN n.tree n.leaf) && upFrom (-1) n.keys && (n.leaf || decide (0 < n.keys.length))

theorem rightN_iff {n : Nod} : rightN n = true ↔ widN n.tree n.leaf ≠ 0 ∧ n.keys.length ≤ capN (widN n.tree n.leaf) ∧ n.vals.length = n.keys.length ∧ (∀ v ∈ n.vals, v.length = widN n.tree n.leaf) ∧ upFrom (-1) n.keys = true ∧ (n.leaf = true ∨ 0 < n.keys.length) := by
  simp [rightN, and_assoc]

/-- the first twelve bytes -/
def nodH (n : Nod) : List UInt8 := [if n.leaf = true then 1 else 0, UInt8.ofNat n.tree.toNat] ++ (encN 2 n.keys.length ++ (encN 2 (widN n.tree n.leaf) ++ (encN 2 (capN (widN n.tree n.leaf)) ++ encN 4 0)))
def nodK (l : List Int) : List UInt8 := (l.map fun k => encN 8 k.toNat).flatten
/-- an encoding -/
def encNod (n : Nod) : List UInt8 :=
  nodH n ++ (nodK n.keys ++ (List.replicate (8 * (capN (widN n.tree n.leaf) - n.keys.length)) 0 ++ (n.vals.flatten ++ List.replicate (232 - 8 * capN (widN n.tree n.leaf) - widN n.tree n.leaf * n.keys.length) 0)))

theorem nodH_len (n : Nod) : (nodH n).length = 12 := by simp [nodH, encN_length]
theorem nodK_len (l : List Int) : (nodK l).length = 8 * l.length := by
  rw [nodK, flat_length (c := 8), List.length_map]
  intro p hp
  obtain ⟨k, _, rfl⟩ := List.mem_map.1 hp
  exact encN_length 8 _

/-- what a right node's parts are -/
theorem encNod_length {n : Nod} (h : rightN n = true) : (encNod n).length = 244 := by
  obtain ⟨h1, h2, h3, h4, h5, h6⟩ := rightN_iff.1 h
  have hv := flat_length h4
  rw [h3] at hv
  simp only [encNod, List.length_append, nodH_len, nodK_len, List.length_replicate, hv]
  rcases widN_cases n.tree n.leaf with ⟨a, b⟩ | ⟨a, b⟩ | ⟨a, b⟩ | ⟨a, b⟩ | ⟨a, b⟩
  · exact absurd a h1
  all_goals rw [b] at h2
  all_goals rw [b, a]
  all_goals omega

/-! ### what lies in bytes -/
def at2 (b : List UInt8) (i : Nat) : Nat := leN ((b.drop i).take 2)
def cntR (b : List UInt8) : Nat := at2 b 2
def leafR (b : List UInt8) : Bool := b.getD 0 0 == 1
def treeR (b : List UInt8) : Int := (b.getD 1 0).toNat
def widR (b : List UInt8) : Nat := widN (treeR b) (leafR b)
def capR (b : List UInt8) : Nat := capN (widR b)
def keyR (b : List UInt8) (i : Nat) : Nat := leN ((b.drop (12 + 8 * i)).take 8)
def valR (b : List UInt8) (i : Nat) : List UInt8 := (b.drop (12 + 8 * capR b + widR b * i)).take (widR b)

/-- all but the keys is as it must be -/
structure FormN (b : List UInt8) : Prop where
  len : b.length = 244
  first : (b.getD 0 0).toNat ≤ 1
  wid : widR b ≠ 0
  w : at2 b 4 = widR b
  m : at2 b 6 = capR b
  z : leN ((b.drop 8).take 4) = 0
  cnt : cntR b ≤ capR b
  one : leafR b = true ∨ cntR b ≠ 0
  zk : zeroB ((b.drop (12 + 8 * cntR b)).take (8 * capR b - 8 * cntR b)) = true
  zv : zeroB (b.drop (12 + 8 * capR b + widR b * cntR b)) = true

/-- the first error of the keys, above p -/
def keyErr (p : Int) : List Nat → Int
  | [] => 0
  | k :: r => if maxK < (k : Int) then 2 else if (k : Int) ≤ p then 8 else keyErr k r

theorem keyErr_up : ∀ {p : Int} {l : List Nat}, keyErr p l = 0 ↔ upFrom p (l.map fun k : Nat => (k : Int)) = true
  | p, [] => by simp [keyErr, upFrom]
  | p, k :: r => by
    simp only [keyErr, List.map_cons, upFrom, Bool.and_eq_true, decide_eq_true_eq]
    have ih := keyErr_up (p := (k : Int)) (l := r)
    split
    · constructor
      · intro h; omega
      · rintro ⟨⟨_, h⟩, _⟩; omega
    · split
      · constructor
        · intro h; omega
        · rintro ⟨⟨h, _⟩, _⟩; omega
      · rw [ih]
        constructor
        · intro h; exact ⟨⟨by omega, by omega⟩, h⟩
        · intro h; exact h.2

def formN (b : List UInt8) : Bool :=
  decide (b.length = 244) && decide ((b.getD 0 0).toNat ≤ 1) && decide (widR b ≠ 0) && decide (at2 b 4 = widR b) && decide (at2 b 6 = capR b) && decide (leN ((b.drop 8).take 4) = 0) && decide (cntR b ≤ capR b) &&
    (leafR b || decide (cntR b ≠ 0)) && zeroB ((b.drop (12 + 8 * cntR b)).take (8 * capR b - 8 * cntR b)) && zeroB (b.drop (12 + 8 * capR b + widR b * cntR b))
theorem formN_iff {b : List UInt8} : formN b = true ↔ FormN b := by
  simp only [formN, Bool.and_eq_true, Bool.or_eq_true, decide_eq_true_eq]
  constructor
  · rintro ⟨⟨⟨⟨⟨⟨⟨⟨⟨h1, h2⟩, h3⟩, h4⟩, h5⟩, h6⟩, h7⟩, h8⟩, h9⟩, h10⟩
    exact ⟨h1, h2, h3, h4, h5, h6, h7, h8, h9, h10⟩
  · rintro ⟨h1, h2, h3, h4, h5, h6, h7, h8, h9, h10⟩
    exact ⟨⟨⟨⟨⟨⟨⟨⟨⟨h1, h2⟩, h3⟩, h4⟩, h5⟩, h6⟩, h7⟩, h8⟩, h9⟩, h10⟩

def readNE (b : List UInt8) : Int := if formN b = true then keyErr (-1) ((List.range (cntR b)).map (keyR b)) else 7
def nodR (b : List UInt8) : Nod := ⟨treeR b, leafR b, (List.range (cntR b)).map (fun i => (keyR b i : Int)), (List.range (cntR b)).map (valR b)⟩
def readN (b : List UInt8) : Nod := if readNE b = 0 then nodR b else Nod.zero

theorem readNE_zero {b : List UInt8} (h : readNE b = 0) : FormN b ∧ upFrom (-1) ((List.range (cntR b)).map fun i => (keyR b i : Int)) = true := by
  unfold readNE at h
  split at h
  · rename_i hf
    refine ⟨formN_iff.1 hf, ?_⟩
    have := keyErr_up.1 h
    rwa [List.map_map] at this
  · omega

theorem nod_zero_back {l : List UInt8} (h : zeroB l = true) : l = List.replicate l.length 0 := by
  rw [List.eq_replicate_iff]
  refine ⟨rfl, fun b hb => ?_⟩
  have := List.all_eq_true.1 h b hb
  simpa using this
theorem nod_zeros (n : Nat) : zeroB (List.replicate n 0) = true := by
  rw [zeroB, List.all_eq_true]
  intro b hb
  simpa using (List.mem_replicate.1 hb).2

theorem join_at {α : Type} (l : List α) {i n j : Nat} (h : j = i + n) : (l.drop i).take n ++ l.drop j = l.drop i := by
  subst h
  rw [← List.drop_drop, List.take_append_drop]

theorem two_back (x y : UInt8) : encN 2 (leN [x, y]) = [x, y] := nod_encN_back [x, y]
theorem four_back (x y z t : UInt8) : encN 4 (leN [x, y, z, t]) = [x, y, z, t] := nod_encN_back [x, y, z, t]

theorem bit_back {x : UInt8} (h : x.toNat ≤ 1) : (if (x == 1) = true then (1 : UInt8) else 0) = x := by
  by_cases e : x = 1
  · subst e; rfl
  · rw [if_neg (by simpa using e)]
    apply UInt8.toNat_inj.1
    have h5 : x.toNat ≠ 1 := fun e2 => e (UInt8.toNat_inj.1 e2)
    simp only [UInt8.toNat_zero]
    omega

/-- a node that was read is right -/
theorem readN_right {b : List UInt8} (h : readNE b = 0) : rightN (nodR b) = true := by
  obtain ⟨hf, hu⟩ := readNE_zero h
  refine rightN_iff.2 ⟨hf.wid, ?_, ?_, ?_, hu, ?_⟩
  · simp only [nodR, List.length_map, List.length_range]; exact hf.cnt
  · simp [nodR]
  · intro v hv
    simp only [nodR] at hv ⊢
    obtain ⟨i, hi, rfl⟩ := List.mem_map.1 hv
    have hi := List.mem_range.1 hi
    have hcnt := hf.cnt
    have hwid := hf.wid
    have hlen := hf.len
    simp only [valR, List.length_take, List.length_drop, hlen]
    have hc := widN_cases (treeR b) (leafR b)
    change (widR b = 0 ∧ capR b = 0) ∨ (widR b = 4 ∧ capR b = 18) ∨ (widR b = 8 ∧ capR b = 12) ∨ (widR b = 24 ∧ capR b = 6) ∨ (widR b = 16 ∧ capR b = 9) at hc
    change min (widR b) (244 - (12 + 8 * capR b + widR b * i)) = widR b
    rcases hc with ⟨a, c⟩ | ⟨a, c⟩ | ⟨a, c⟩ | ⟨a, c⟩ | ⟨a, c⟩
    · exact absurd a hwid
    all_goals rw [c] at hcnt
    all_goals rw [a, c]
    all_goals omega
  · rcases hf.one with h1 | h1
    · exact .inl h1
    · right; simp [nodR]; omega

/-- and its bytes are those -/
theorem encNod_back {b : List UInt8} (h : readNE b = 0) : encNod (nodR b) = b := by
  obtain ⟨hf, hu⟩ := readNE_zero h
  have hcnt := hf.cnt
  have hwid := hf.wid
  have hlen := hf.len
  have hc := widN_cases (treeR b) (leafR b)
  change (widR b = 0 ∧ capR b = 0) ∨ (widR b = 4 ∧ capR b = 18) ∨ (widR b = 8 ∧ capR b = 12) ∨ (widR b = 24 ∧ capR b = 6) ∨ (widR b = 16 ∧ capR b = 9) at hc
  have hfit : 12 + 8 * capR b + widR b * capR b ≤ 244 ∧ capR b ≤ 18 ∧ widR b ≤ 24 := by
    rcases hc with ⟨a, c⟩ | ⟨a, c⟩ | ⟨a, c⟩ | ⟨a, c⟩ | ⟨a, c⟩ <;> rw [a, c] <;> omega
  have hmul : widR b * cntR b ≤ widR b * capR b := Nat.mul_le_mul_left _ hcnt
  -- the parts, one behind the other
  have p1 : nodH (nodR b) = b.take 12 := by
    obtain ⟨h1, h2, h3, h4⟩ : (b.getD 0 0).toNat ≤ 1 ∧ at2 b 4 = widR b ∧ at2 b 6 = capR b ∧ leN ((b.drop 8).take 4) = 0 := ⟨hf.first, hf.w, hf.m, hf.z⟩
    have hk : (nodR b).keys.length = at2 b 2 := by simp [nodR, cntR]
    have hw : widN (nodR b).tree (nodR b).leaf = at2 b 4 := h2.symm
    have hm : capN (widN (nodR b).tree (nodR b).leaf) = at2 b 6 := h3.symm
    have hz : encN 4 0 = (b.drop 8).take 4 := by
      have hl : ((b.drop 8).take 4).length = 4 := by rw [List.length_take, List.length_drop]; omega
      have := nod_encN_back ((b.drop 8).take 4)
      rw [hl, h4] at this
      exact this
    rw [nodH, hk, hm, hw, hz]
    have hlf : (if (nodR b).leaf = true then (1 : UInt8) else 0) = b.getD 0 0 := by
      exact bit_back h1
    have htr : UInt8.ofNat (nodR b).tree.toNat = b.getD 1 0 := by
      simp [nodR, treeR]
    rw [hlf, htr]
    match b, hlen with
    | x0 :: x1 :: x2 :: x3 :: x4 :: x5 :: x6 :: x7 :: x8 :: x9 :: x10 :: x11 :: r, _ =>
      simp [at2, two_back]
  have p2 : nodK (nodR b).keys = (b.drop 12).take (8 * cntR b) := by
    have hp := pieces_back (c := 8) (cntR b) ((b.drop 12).take (8 * cntR b)) (by rw [List.length_take, List.length_drop]; omega)
    rw [← hp, nodK]
    congr 1
    simp only [nodR, List.map_map]
    apply List.map_congr_left
    intro i hi
    have hi := List.mem_range.1 hi
    simp only [Function.comp_apply, Int.toNat_natCast, keyR]
    have hl : ((b.drop (12 + 8 * i)).take 8).length = 8 := by rw [List.length_take, List.length_drop]; omega
    have := nod_encN_back ((b.drop (12 + 8 * i)).take 8)
    rw [hl] at this
    rw [this, List.drop_take, List.take_take, List.drop_drop, Nat.min_eq_left (by omega)]
  have p3 : List.replicate (8 * (capR b - cntR b)) (0 : UInt8) = (b.drop (12 + 8 * cntR b)).take (8 * capR b - 8 * cntR b) := by
    have e := nod_zero_back hf.zk
    have hl : ((b.drop (12 + 8 * cntR b)).take (8 * capR b - 8 * cntR b)).length = 8 * (capR b - cntR b) := by rw [List.length_take, List.length_drop]; omega
    rw [hl] at e
    exact e.symm
  have p4 : (nodR b).vals.flatten = (b.drop (12 + 8 * capR b)).take (widR b * cntR b) := by
    have hp := pieces_back (c := widR b) (cntR b) ((b.drop (12 + 8 * capR b)).take (widR b * cntR b)) (by rw [List.length_take, List.length_drop]; omega)
    rw [← hp]
    congr 1
    simp only [nodR]
    apply List.map_congr_left
    intro i hi
    have hi := List.mem_range.1 hi
    have hm2 : widR b * (i + 1) ≤ widR b * cntR b := Nat.mul_le_mul_left _ (by omega)
    rw [Nat.mul_add, Nat.mul_one] at hm2
    rw [valR, List.drop_take, List.take_take, List.drop_drop, Nat.min_eq_left (by omega)]
  have p5 : List.replicate (232 - 8 * capR b - widR b * cntR b) (0 : UInt8) = b.drop (12 + 8 * capR b + widR b * cntR b) := by
    have e := nod_zero_back hf.zv
    have hl : (b.drop (12 + 8 * capR b + widR b * cntR b)).length = 232 - 8 * capR b - widR b * cntR b := by rw [List.length_drop, hlen]; omega
    rw [hl] at e
    exact e.symm
  have hkl : (nodR b).keys.length = cntR b := by simp [nodR]
  have e : encNod (nodR b) = nodH (nodR b) ++ (nodK (nodR b).keys ++ (List.replicate (8 * (capR b - cntR b)) 0 ++ ((nodR b).vals.flatten ++ List.replicate (232 - 8 * capR b - widR b * cntR b) 0))) := by
    rw [encNod, hkl]; rfl
  rw [e, p1, p2, p3, p4, p5]
  have q4 := join_at b (i := 12 + 8 * capR b) (n := widR b * cntR b) rfl
  have q3 := join_at b (i := 12 + 8 * cntR b) (n := 8 * capR b - 8 * cntR b) (j := 12 + 8 * capR b) (by omega)
  have q2 := join_at b (i := 12) (n := 8 * cntR b) rfl
  rw [q4, q3, q2, List.take_append_drop]

/-! ### what was put is read -/
theorem drop_past {α : Type} {a b : List α} {n k : Nat} (h : a.length = n) : (a ++ b).drop (n + k) = b.drop k := by
  subst h
  rw [List.drop_append, List.drop_of_length_le (by omega), List.nil_append]
  congr 1
  omega

theorem take_in {α : Type} {a b : List α} {i n : Nat} (h : i + n ≤ a.length) : ((a ++ b).drop i).take n = (a.drop i).take n := by
  rw [List.drop_append_of_le_length (by omega), List.take_append_of_le_length (by rw [List.length_drop]; omega)]

theorem encN_two (x : Nat) : encN 2 x = [UInt8.ofNat x, UInt8.ofNat (x / 256)] := rfl

theorem encNod_parts {n : Nod} (h : rightN n = true) :
    leafR (encNod n) = n.leaf ∧ treeR (encNod n) = n.tree ∧ cntR (encNod n) = n.keys.length ∧ at2 (encNod n) 4 = widN n.tree n.leaf ∧ at2 (encNod n) 6 = capN (widN n.tree n.leaf) ∧ leN (((encNod n).drop 8).take 4) = 0 ∧ ((encNod n).getD 0 0).toNat ≤ 1 := by
  obtain ⟨h1, h2, h3, h4, h5, h6⟩ := rightN_iff.1 h
  obtain ⟨ht1, ht2⟩ := widN_tree h1
  have hc := widN_cases n.tree n.leaf
  have hk : n.keys.length < 65536 ∧ widN n.tree n.leaf < 65536 ∧ capN (widN n.tree n.leaf) < 65536 := by
    rcases hc with ⟨a, c⟩ | ⟨a, c⟩ | ⟨a, c⟩ | ⟨a, c⟩ | ⟨a, c⟩ <;> rw [c] at h2 ⊢ <;> rw [a] <;> omega
  have e2 : ∀ x, x < 65536 → leN [UInt8.ofNat x, UInt8.ofNat (x / 256)] = x := fun x hx => leN_encN 2 x (by simpa using hx)
  have ee : encNod n = (if n.leaf = true then 1 else 0) :: UInt8.ofNat n.tree.toNat :: UInt8.ofNat n.keys.length :: UInt8.ofNat (n.keys.length / 256) :: UInt8.ofNat (widN n.tree n.leaf) :: UInt8.ofNat (widN n.tree n.leaf / 256) :: UInt8.ofNat (capN (widN n.tree n.leaf)) :: UInt8.ofNat (capN (widN n.tree n.leaf) / 256) :: 0 :: 0 :: 0 :: 0 :: (encNod n).drop 12 := by
    have : encNod n = nodH n ++ (encNod n).drop 12 := by
      rw [encNod, ← nodH_len n, List.drop_left]
    conv => lhs; rw [this]
    rfl
  generalize (encNod n).drop 12 = rest at ee
  rw [ee]
  refine ⟨?_, ?_, ?_, ?_, ?_, ?_, ?_⟩
  · cases hl : n.leaf <;> simp [leafR]
  · simp [treeR]
    omega
  · simp only [cntR, at2, List.drop_succ_cons, List.drop_zero, List.take_succ_cons, List.take_zero]
    exact e2 _ hk.1
  · simp only [at2, List.drop_succ_cons, List.drop_zero, List.take_succ_cons, List.take_zero]
    exact e2 _ hk.2.1
  · simp only [at2, List.drop_succ_cons, List.drop_zero, List.take_succ_cons, List.take_zero]
    exact e2 _ hk.2.2
  · simp [leN]
  · cases hl : n.leaf <;> simp

theorem nod_read {n : Nod} (h : rightN n = true) : readNE (encNod n) = 0 ∧ nodR (encNod n) = n := by
  obtain ⟨h1, h2, h3, h4, h5, h6⟩ := rightN_iff.1 h
  obtain ⟨g1, g2, g3, g4, g5, g6, g7⟩ := encNod_parts h
  have hlen := encNod_length h
  have gw : widR (encNod n) = widN n.tree n.leaf := by rw [widR, g1, g2]
  have gc : capR (encNod n) = capN (widN n.tree n.leaf) := by rw [capR, gw]
  have hkb := upFrom_bounds h5
  have hv := flat_length h4
  rw [h3] at hv
  have hH := nodH_len n
  have hK := nodK_len n.keys
  generalize hw : widN n.tree n.leaf = w at *
  generalize hcap : capN w = m at *
  have eE : encNod n = nodH n ++ (nodK n.keys ++ (List.replicate (8 * (m - n.keys.length)) 0 ++ (n.vals.flatten ++ List.replicate (232 - 8 * m - w * n.keys.length) 0))) := by
    rw [encNod, hw, hcap]
  have kk : ∀ i (hi : i < n.keys.length), (keyR (encNod n) i : Int) = n.keys[i] := fun i hi => by
    have hb := hkb _ (List.getElem_mem hi)
    have e : ((encNod n).drop (12 + 8 * i)).take 8 = encN 8 n.keys[i].toNat := by
      rw [eE, drop_past hH, take_in (by rw [hK]; omega), nodK]
      have hp := piece_at (ps := n.keys.map fun k => encN 8 k.toNat) (c := 8) (by intro p hp; obtain ⟨k, _, rfl⟩ := List.mem_map.1 hp; exact encN_length 8 _) i (by simpa using hi)
      rw [hp, List.getElem_map]
    rw [keyR, e, leN_encN 8 _ (by simp only [maxK] at hb; omega)]
    omega
  have vv : ∀ i (hi : i < n.vals.length), valR (encNod n) i = n.vals[i] := fun i hi => by
    have hm2 : w * (i + 1) ≤ w * n.keys.length := Nat.mul_le_mul_left _ (by omega)
    rw [Nat.mul_add, Nat.mul_one] at hm2
    have hp := piece_at h4 i hi
    rw [valR, gc, gw, eE]
    have a1 : (nodH n ++ nodK n.keys ++ List.replicate (8 * (m - n.keys.length)) (0 : UInt8)).length = 12 + 8 * m := by
      simp only [List.length_append, hH, hK, List.length_replicate]; omega
    rw [show nodH n ++ (nodK n.keys ++ (List.replicate (8 * (m - n.keys.length)) (0 : UInt8) ++ (n.vals.flatten ++ List.replicate (232 - 8 * m - w * n.keys.length) 0))) = (nodH n ++ nodK n.keys ++ List.replicate (8 * (m - n.keys.length)) 0) ++ (n.vals.flatten ++ List.replicate (232 - 8 * m - w * n.keys.length) 0) by simp [List.append_assoc]]
    rw [drop_past a1, take_in (by rw [hv]; omega)]
    exact hp
  have hf : FormN (encNod n) := by
    refine ⟨hlen, g7, by rw [gw]; exact h1, by rw [g4, gw], by rw [g5, gc], g6, by rw [g3, gc]; exact h2, ?_, ?_, ?_⟩
    · rw [g1, g3]
      rcases h6 with h6 | h6
      · exact .inl h6
      · exact .inr (by omega)
    · rw [g3, gc, eE, drop_past hH]
      rw [show 8 * n.keys.length = (nodK n.keys).length + 0 by rw [hK]; rfl, drop_past rfl, List.drop_zero, Nat.add_zero, hK, List.take_append_of_le_length (by rw [List.length_replicate]; omega), List.take_replicate]
      exact nod_zeros _
    · rw [g3, gc, gw, eE]
      have a1 : (nodH n ++ nodK n.keys ++ List.replicate (8 * (m - n.keys.length)) (0 : UInt8) ++ n.vals.flatten).length = 12 + 8 * m + w * n.keys.length := by
        simp only [List.length_append, hH, hK, List.length_replicate, hv]; omega
      rw [show nodH n ++ (nodK n.keys ++ (List.replicate (8 * (m - n.keys.length)) (0 : UInt8) ++ (n.vals.flatten ++ List.replicate (232 - 8 * m - w * n.keys.length) 0))) = (nodH n ++ nodK n.keys ++ List.replicate (8 * (m - n.keys.length)) 0 ++ n.vals.flatten) ++ List.replicate (232 - 8 * m - w * n.keys.length) 0 by simp [List.append_assoc]]
      rw [← a1, List.drop_left]
      exact nod_zeros _
  have ek : (List.range (cntR (encNod n))).map (fun i => (keyR (encNod n) i : Int)) = n.keys := by
    rw [g3]
    apply List.ext_getElem
    · simp
    · intro i hi hi2
      simp only [List.getElem_map, List.getElem_range]
      exact kk i hi2
  have ev : (List.range (cntR (encNod n))).map (valR (encNod n)) = n.vals := by
    rw [g3]
    apply List.ext_getElem
    · simp [h3]
    · intro i hi hi2
      simp only [List.getElem_map, List.getElem_range]
      exact vv i hi2
  constructor
  · rw [readNE, if_pos (formN_iff.2 hf), keyErr_up, List.map_map]
    have : (List.range (cntR (encNod n))).map ((fun k : Nat => (k : Int)) ∘ keyR (encNod n)) = n.keys := ek
    rw [this]
    exact h5
  · rw [nodR, g1, g2, ek, ev]

end Go.Proofs.Ytlobmefcpjjbcaa
