/-
  Layer 8: the numbers of a value, their bytes, and back.
-/
import Derived.Test.YtolapeocdaknjaaCodeL
namespace Go.Proofs.Ytolapeocdaknjaa
open Go.RowKit
set_option linter.unusedVariables false
set_option linter.unusedSimpArgs false

/-- a number of a value: how many bytes, from where to where -/
abbrev NumS := Nat × Int × Int
def inB (n lo hi : Int) : Bool := decide (lo ≤ n) && decide (n ≤ hi)
theorem inB_iff {n lo hi : Int} : inB n lo hi = true ↔ lo ≤ n ∧ n ≤ hi := by simp [inB]

def okP (l : List (NumS × Int)) : Bool := l.all fun p => inB p.2 p.1.2.1 p.1.2.2
def encP (l : List (NumS × Int)) : List UInt8 := l.flatMap fun p => encN p.1.1 p.2.toNat
def bldP (l : List (NumS × Int)) : List UInt8 := if okP l then encP l else []

/-- a number that some bytes can hold -/
def fitN (p : NumS) : Prop := 1 ≤ p.1 ∧ p.1 ≤ 8 ∧ 0 ≤ p.2.1 ∧ p.2.2 ≤ 9223372036854775807 ∧ p.2.2 < ((256 ^ p.1 : Nat) : Int) ∧ p.2.1 ≤ 9223372036854775807 ∧ -9223372036854775808 ≤ p.2.2

def sizeN (ns : List NumS) : Nat := (ns.map (·.1)).sum
def partsN : List UInt8 → List NumS → List Nat
  | _, [] => []
  | s, p :: r => leN (s.take p.1) :: partsN (s.drop p.1) r
def okR (s : List UInt8) (ns : List NumS) : Bool := okP (ns.zip ((partsN s ns).map fun k : Nat => (k : Int)))
def rdE (s : List UInt8) (ns : List NumS) : Int := if s.length ≠ sizeN ns then 7 else if okR s ns then 0 else 2

theorem val_encN_back (l : List UInt8) : encN l.length (leN l) = l := by
  induction l with
  | nil => rfl
  | cons b r ih =>
    have hb := UInt8.toNat_lt b
    have h1 : UInt8.ofNat (leN (b :: r)) = b := by
      apply UInt8.toNat_inj.1
      rw [UInt8.toNat_ofNat', leN]
      omega
    have h2 : leN (b :: r) / 256 = leN r := by simp only [leN]; omega
    change UInt8.ofNat (leN (b :: r)) :: encN r.length (leN (b :: r) / 256) = b :: r
    rw [h1, h2, ih]

theorem encN_take : ∀ (k j n : Nat), j ≤ k → (encN k n).take j = encN j n
  | _, 0, _, _ => by simp [encN]
  | 0, _ + 1, _, h => by omega
  | k + 1, j + 1, n, h => by rw [encN, encN, List.take_succ_cons, encN_take k j (n / 256) (by omega)]

theorem leN_zeros (l : List UInt8) (m : Nat) : leN (l ++ List.replicate m 0) = leN l := by
  induction l with
  | nil =>
    induction m with
    | zero => rfl
    | succ m ih =>
      rw [List.nil_append] at ih ⊢
      rw [List.replicate_succ]
      change (0 : UInt8).toNat + 256 * leN (List.replicate m 0) = leN []
      rw [ih]
      rfl
  | cons b r ih => rw [List.cons_append, leN, leN, ih]

theorem encN_append : ∀ (j k x y : Nat), x < 256 ^ j → encN (j + k) (x + 256 ^ j * y) = encN j x ++ encN k y
  | 0, k, x, y, h => by
    obtain rfl : x = 0 := by simpa using h
    simp [encN]
  | j + 1, k, x, y, h => by
    have e1 : j + 1 + k = (j + k) + 1 := by omega
    have e2 : 256 ^ (j + 1) * y = 256 * (256 ^ j * y) := by rw [Nat.pow_succ, Nat.mul_comm (256 ^ j) 256, Nat.mul_assoc]
    rw [e1, encN, encN, e2]
    have e3 : (x + 256 * (256 ^ j * y)) / 256 = x / 256 + 256 ^ j * y := by omega
    have e4 : UInt8.ofNat (x + 256 * (256 ^ j * y)) = UInt8.ofNat x := by
      apply UInt8.toNat_inj.1
      rw [UInt8.toNat_ofNat', UInt8.toNat_ofNat']
      omega
    rw [e3, e4, encN_append j k (x / 256) y (by rw [Nat.pow_succ] at h; omega)]
    rfl

theorem leN_split (l : List UInt8) (j : Nat) (h : j ≤ l.length) : leN l = leN (l.take j) + 256 ^ j * leN (l.drop j) := by
  induction l generalizing j with
  | nil => simp at h; subst h; simp [leN]
  | cons b r ih =>
    cases j with
    | zero => simp [leN]
    | succ j =>
      rw [List.take_succ_cons, List.drop_succ_cons, leN, leN, ih j (by simpa using h), Nat.pow_succ, Nat.mul_comm (256 ^ j) 256, Nat.mul_assoc]
      omega

theorem okP_append (a b : List (NumS × Int)) : okP (a ++ b) = (okP a && okP b) := by simp [okP]
theorem encP_append (a b : List (NumS × Int)) : encP (a ++ b) = encP a ++ encP b := by simp [encP]
theorem okP_step {l : List (NumS × Int)} {k : Nat} (hk : k < l.length) : okP (l.take (k + 1)) = (okP (l.take k) && inB l[k].2 l[k].1.2.1 l[k].1.2.2) := by
  rw [List.take_succ_eq_append_getElem hk, okP_append]
  simp [okP]
theorem encP_step {l : List (NumS × Int)} {k : Nat} (hk : k < l.length) : encP (l.take (k + 1)) = encP (l.take k) ++ encN l[k].1.1 l[k].2.toNat := by
  rw [List.take_succ_eq_append_getElem hk, encP_append]
  simp [encP]
theorem okP_bad {l : List (NumS × Int)} {k : Nat} (hk : k < l.length) (h : inB l[k].2 l[k].1.2.1 l[k].1.2.2 = false) : okP l = false := by
  rw [Bool.eq_false_iff]
  intro e
  have := List.all_eq_true.1 e l[k] (List.getElem_mem _)
  rw [h] at this
  cases this
theorem encP_le {l : List (NumS × Int)} (h : ∀ p ∈ l, p.1.1 ≤ 8) : (encP l).length ≤ l.length * 8 := by
  induction l with
  | nil => simp [encP]
  | cons p r ih =>
    have h1 := ih fun q hq => h q (List.mem_cons_of_mem _ hq)
    have h2 := h p List.mem_cons_self
    simp only [encP, List.flatMap_cons, List.length_append, encN_length, List.length_cons] at *
    omega

theorem partsN_length (s : List UInt8) (ns : List NumS) : (partsN s ns).length = ns.length := by
  induction ns generalizing s with
  | nil => rfl
  | cons p r ih => simp [partsN, ih]

/-- what was built is read -/
theorem parts_enc (ns : List NumS) (vs : List Int) (hl : vs.length = ns.length) (hf : ∀ p ∈ ns, fitN p) (ho : okP (ns.zip vs) = true) (rest : List UInt8) :
    (partsN (encP (ns.zip vs) ++ rest) ns).map (fun k : Nat => (k : Int)) = vs ∧ (encP (ns.zip vs)).length = sizeN ns := by
  induction ns generalizing vs with
  | nil =>
    obtain rfl : vs = [] := List.eq_nil_of_length_eq_zero (by simpa using hl)
    exact ⟨rfl, rfl⟩
  | cons p r ih =>
    match vs, hl with
    | v :: vs, hl =>
      have hp := hf p List.mem_cons_self
      obtain ⟨h1, h2, h3, h4, h5, h6⟩ := hp
      simp only [List.zip_cons_cons, okP, List.all_cons, Bool.and_eq_true] at ho
      obtain ⟨hv, ho⟩ := ho
      rw [inB_iff] at hv
      obtain ⟨i1, i2⟩ := ih vs (by simpa using hl) (fun q hq => hf q (List.mem_cons_of_mem _ hq)) ho
      have e1 : encP (((p, v) :: r.zip vs)) = encN p.1 v.toNat ++ encP (r.zip vs) := by simp [encP]
      simp only [List.zip_cons_cons, e1]
      constructor
      · rw [partsN, List.append_assoc, List.take_left' (encN_length _ _), List.drop_left' (encN_length _ _), leN_encN _ _ (by omega), List.map_cons, i1]
        congr 1
        omega
      · rw [List.length_append, encN_length, i2]
        simp [sizeN]

/-- of what is read the bytes are those -/
theorem enc_parts (ns : List NumS) (s : List UInt8) (h : s.length = sizeN ns) : encP (ns.zip ((partsN s ns).map fun k : Nat => (k : Int))) = s := by
  induction ns generalizing s with
  | nil =>
    obtain rfl : s = [] := List.eq_nil_of_length_eq_zero (by simpa [sizeN] using h)
    rfl
  | cons p r ih =>
    have h1 : s.length = p.1 + sizeN r := by rw [h]; simp [sizeN]
    have h2 := ih (s.drop p.1) (by rw [List.length_drop]; omega)
    have e : (s.take p.1).length = p.1 := by rw [List.length_take]; omega
    simp only [partsN, List.map_cons, List.zip_cons_cons]
    have e1 : ∀ v q, encP ((p, v) :: q) = encN p.1 v.toNat ++ encP q := by intro v q; simp [encP]
    rw [e1, h2, Int.toNat_natCast]
    conv => lhs; lhs; lhs; rw [← e]
    rw [val_encN_back, List.take_append_drop]

theorem bldP_ne {l : List (NumS × Int)} (h : bldP l ≠ []) : okP l = true := by
  by_cases e : okP l = true
  · exact e
  · rw [bldP, if_neg e] at h; exact absurd rfl h
theorem bldP_nil {p : NumS × Int} {l : List (NumS × Int)} (h1 : 1 ≤ p.1.1) : bldP (p :: l) = [] ↔ okP (p :: l) = false := by
  constructor
  · intro h
    rw [Bool.eq_false_iff]
    intro e
    rw [bldP, if_pos e] at h
    have : (encP (p :: l)).length = 0 := by rw [h]; rfl
    simp only [encP, List.flatMap_cons, List.length_append, encN_length] at this
    omega
  · intro h; rw [bldP, h]; rfl

/-- the round trip: a value that was built -/
theorem read_built {ns : List NumS} {vs : List Int} (hl : vs.length = ns.length) (hf : ∀ p ∈ ns, fitN p) (ho : okP (ns.zip vs) = true) :
    rdE (bldP (ns.zip vs)) ns = 0 ∧ (partsN (bldP (ns.zip vs)) ns).map (fun k : Nat => (k : Int)) = vs ∧ (bldP (ns.zip vs)).length = sizeN ns := by
  obtain ⟨h1, h2⟩ := parts_enc ns vs hl hf ho []
  rw [List.append_nil] at h1
  rw [bldP, if_pos ho]
  refine ⟨?_, h1, h2⟩
  rw [rdE, if_neg (by omega), okR, h1, ho]
  rfl
/-- the round trip: bytes that were read -/
theorem built_read {ns : List NumS} {s : List UInt8} (h : rdE s ns = 0) : bldP (ns.zip ((partsN s ns).map fun k : Nat => (k : Int))) = s := by
  unfold rdE at h
  split at h
  · cases h
  · rename_i hl
    split at h
    · rename_i ho
      rw [bldP, if_pos (show okP _ = true from ho), enc_parts ns s (by omega)]
    · cases h

/-! ### the kinds -/
def mapS : List NumS := [(3, 0, 16777215), (5, 0, 65535)]
def detS : List NumS := [(8, 0, 16384), (8, 0, 2147483647), (4, 0, 16777215), (4, 0, 16777215)]
def slotS : List NumS := [(8, 1, 14399), (4, 0, 960), (4, 0, 960)]
def rootS : List NumS := [(4, 1, 14399)]
def countS : List NumS := [(4, 3, 2147483647)]
theorem mapS_fit : ∀ p ∈ mapS, fitN p := by
  intro p hp
  simp only [mapS, List.mem_cons, List.mem_nil_iff, or_false] at hp
  rcases hp with rfl | rfl <;> simp [fitN]
theorem detS_fit : ∀ p ∈ detS, fitN p := by
  intro p hp
  simp only [detS, List.mem_cons, List.mem_nil_iff, or_false] at hp
  rcases hp with rfl | rfl | rfl | rfl <;> simp [fitN]
theorem slotS_fit : ∀ p ∈ slotS, fitN p := by
  intro p hp
  simp only [slotS, List.mem_cons, List.mem_nil_iff, or_false] at hp
  rcases hp with rfl | rfl | rfl <;> simp [fitN]
theorem rootS_fit : ∀ p ∈ rootS, fitN p := by
  intro p hp
  simp only [rootS, List.mem_cons, List.mem_nil_iff, or_false] at hp
  rcases hp with rfl <;> simp [fitN]
theorem countS_fit : ∀ p ∈ countS, fitN p := by
  intro p hp
  simp only [countS, List.mem_cons, List.mem_nil_iff, or_false] at hp
  rcases hp with rfl <;> simp [fitN]

end Go.Proofs.Ytolapeocdaknjaa
