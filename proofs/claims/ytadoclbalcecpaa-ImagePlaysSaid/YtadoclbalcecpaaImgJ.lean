/-
  An image and the reference's image, written side by side.
-/
import Derived.Test.YtadoclbalcecpaaImgI
import Derived.Test.YtadoclbalcecpaaImgT
namespace Go.Proofs.Ytadoclbalcecpaa
open Go.RowKit
set_option linter.unusedVariables false
set_option linter.unusedSimpArgs false

/-- what a write of m bytes to block k of q tells -/
def wE (q : Nat) (k : Int) (m : Nat) : Int := if k < 0 ∨ (q : Int) ≤ k then 3 else if m = 256 then 0 else 1
def wL (q : Nat) (k : Int) (m : Nat) (L l : List UInt8) : List UInt8 := if wE q k m = 0 then splice L (k.toNat * 256) l else L
def wM (q : Nat) (k : Int) (m : Nat) (M : List (List UInt8)) (l : List UInt8) : List (List UInt8) := if wE q k m = 0 then M.set k.toNat l else M

theorem wE_cases (q : Nat) (k : Int) (m : Nat) : ((k < 0 ∨ (q : Int) ≤ k) ∧ wE q k m = 3) ∨ (∃ j : Nat, k = j ∧ j < q ∧ m ≠ 256 ∧ wE q k m = 1) ∨ (∃ j : Nat, k = j ∧ j < q ∧ m = 256 ∧ wE q k m = 0) := by
  by_cases h : k < 0 ∨ (q : Int) ≤ k
  · exact .inl ⟨h, by simp [wE, h]⟩
  · obtain ⟨j, rfl⟩ := Int.eq_ofNat_of_zero_le (show 0 ≤ k by omega)
    by_cases hm : m = 256
    · exact .inr (.inr ⟨j, rfl, by omega, hm, by simp only [wE]; rw [if_neg h, if_pos hm]⟩)
    · exact .inr (.inl ⟨j, rfl, by omega, hm, by simp only [wE]; rw [if_neg h, if_neg hm]⟩)

theorem wL_length {q : Nat} {k : Int} {m : Nat} {L l : List UInt8} (hL : L.length = q * 256) (hl : l.length = m) : (wL q k m L l).length = q * 256 := by
  unfold wL
  rcases wE_cases q k m with ⟨_, e⟩ | ⟨j, rfl, hj, hm, e⟩ | ⟨j, rfl, hj, hm, e⟩
  · rw [e, if_neg (by decide), hL]
  · rw [e, if_neg (by decide), hL]
  · rw [e, if_pos rfl, length_splice _ _ _ (by simp; omega), hL]

theorem wM_blks {q : Nat} {k : Int} {m : Nat} {L l : List UInt8} (hL : L.length = q * 256) (hl : l.length = m) : wM q k m (blks L q) l = blks (wL q k m L l) q := by
  unfold wL wM
  rcases wE_cases q k m with ⟨_, e⟩ | ⟨j, rfl, hj, hm, e⟩ | ⟨j, rfl, hj, hm, e⟩
  · rw [e, if_neg (by decide), if_neg (by decide)]
  · rw [e, if_neg (by decide), if_neg (by decide)]
  · rw [e, if_pos rfl, if_pos rfl]
    apply List.ext_getElem
    · simp [blks]
    · intro i h1 h2
      have hi : i < q := by simpa [blks] using h2
      simp only [blks, List.getElem_set, List.getElem_map, List.getElem_range, Int.toNat_natCast]
      rw [blk_splice hL (by omega) hj hi]
      by_cases hij : i = j
      · rw [if_pos hij, if_pos hij.symm]
      · rw [if_neg hij, if_neg (fun h => hij h.symm)]

theorem blks_flatten (L : List UInt8) (q : Nat) (hL : L.length = q * 256) : (blks L q).flatten = L := by
  have key : ∀ j, j ≤ q → (blks L j).flatten = L.take (j * 256) := by
    intro j
    induction j with
    | zero => intro _; simp [blks]
    | succ j ih =>
      intro hj
      rw [blks_succ, List.flatten_append, ih (by omega)]
      simp only [List.flatten_cons, List.flatten_nil, List.append_nil, blk]
      rw [Nat.add_mul, Nat.one_mul, List.take_add]
  rw [key q (Nat.le_refl _), List.take_of_length_le (by omega)]

theorem Two.write {w0 W : World} {p g p2 q : Nat} {v : Value} {L : List UInt8} {M : List (List UInt8)} (k : Int) (A : Option Addr) (m c : Nat) (l : List UInt8) (h : Two w0 p g p2 v L M W) (hL : L.length = q * 256) (hs : g < p2) (hl : Bytes8 w0 A m c l) :
    Calls Try.prog 12 #[.pointer (some ⟨p, 0, none⟩), .int .i64 k, .slice A m c] W fun e w' => e = .returned (.int .i64 (wE q k m)) ∧ Two w0 p g p2 v (wL q k m L l) M w' := by
  have hB := hl.below h.bel
  unfold wL
  rcases wE_cases q k m with ⟨hk, e⟩ | ⟨j, rfl, hj, hm, e⟩ | ⟨j, rfl, hj, hm, e⟩
  · rw [e, if_neg (by decide)]
    exact (Write_bad p k q A m c W (Blocks_img W h.img hL) hk).mono fun e w' ⟨h1, h2⟩ => ⟨h1, h2 ▸ h⟩
  · rw [e, if_neg (by decide)]
    exact (Write_size j A m c W h.img hL hj hm).mono fun e w' ⟨h1, h2⟩ => ⟨h1, h2 ▸ h⟩
  · rw [e, if_pos rfl]
    subst hm
    exact (Write_img j A c W h.img hL hj hB).mono fun e w' ⟨h1, h2, h3⟩ => ⟨h1, h.bel.trans (h2.below h.img.bg), h3, h.ref.kept h2 hs⟩

theorem Two.refWrite {w0 W : World} {p g p2 q : Nat} {v : Value} {L : List UInt8} {M : List (List UInt8)} (k : Int) (A : Option Addr) (m c : Nat) (l : List UInt8) (h : Two w0 p g p2 v L M W) (hM : M.length = q) (hs : g < p2) (hp : p < p2) (hl : Bytes8 w0 A m c l) :
    Calls Try.prog 13 #[.pointer (some ⟨p2, 0, none⟩), .int .i64 k, .slice A m c] W fun e w' => e = .returned (.int .i64 (wE q k m)) ∧ Two w0 p g p2 v L (wM q k m M l) w' := by
  have hB := hl.below h.bel
  unfold wM
  rcases wE_cases q k m with ⟨hk, e⟩ | ⟨j, rfl, hj, hm, e⟩ | ⟨j, rfl, hj, hm, e⟩
  · rw [e, if_neg (by decide)]
    exact (refWrite_bad k A m c W h.ref (by rw [hM]; exact hk)).mono fun e w' ⟨h1, h2⟩ => ⟨h1, h2 ▸ h⟩
  · rw [e, if_neg (by decide)]
    exact (refWrite_size j A m c W h.ref (by omega) hm).mono fun e w' ⟨h1, h2⟩ => ⟨h1, h2 ▸ h⟩
  · rw [e, if_pos rfl]
    subst hm
    refine (refWrite_put j A c l W h.ref (by omega) hB).mono fun e w' ⟨h1, h2, h3⟩ => ⟨h1, h.bel.trans (h3.mono ?_), h.img.below h3 (by omega) (by omega), by simpa using h2⟩
    have := h.ref.bp
    omega

/-- what a Read of block k tells -/
def rE (q : Nat) (k : Int) : Int := if k < 0 ∨ (q : Int) ≤ k then 3 else 0
def rN (q : Nat) (k : Int) : Nat := if k < 0 ∨ (q : Int) ≤ k then 0 else 256
def rB (q : Nat) (k : Int) (L : List UInt8) : List UInt8 := if k < 0 ∨ (q : Int) ≤ k then [] else blk L k.toNat

theorem Two.read {w0 W : World} {p g p2 q : Nat} {v : Value} {L : List UInt8} {M : List (List UInt8)} (k : Int) (h : Two w0 p g p2 v L M W) (hL : L.length = q * 256) :
    Calls Try.prog 14 #[.pointer (some ⟨p, 0, none⟩), .int .i64 k] W fun e w' => ∃ A, e = .returned (.tuple #[.slice A (rN q k) (rN q k), .int .i64 (rE q k)]) ∧ Bytes8 w' A (rN q k) (rN q k) (rB q k L) ∧ Below W.heap.size W w' ∧ Two w0 p g p2 v L M w' := by
  unfold rE rN rB
  by_cases hk : k < 0 ∨ (q : Int) ≤ k
  · simp only [if_pos hk]
    refine (Read_bad p k q W (Blocks_img W h.img hL) hk).mono ?_
    rintro e w' ⟨rfl, rfl⟩
    exact ⟨none, rfl, Bytes8.nil _, Below.refl _ _, h⟩
  · simp only [if_neg hk]
    obtain ⟨j, rfl⟩ := Int.eq_ofNat_of_zero_le (show 0 ≤ k by omega)
    exact (Read_img j W h.img hL (by omega)).mono fun e w' ⟨A, h1, h2, h3⟩ => ⟨A, h1, h2, h3, h.later h3⟩

theorem Two.refRead {w0 W : World} {p g p2 q : Nat} {v : Value} {L : List UInt8} (k : Int) (h : Two w0 p g p2 v L (blks L q) W) (hL : L.length = q * 256) :
    Calls Try.prog 15 #[.pointer (some ⟨p2, 0, none⟩), .int .i64 k] W fun e w' => ∃ A c, e = .returned (.tuple #[.slice A (rN q k) c, .int .i64 (rE q k)]) ∧ Bytes8 w' A (rN q k) c (rB q k L) ∧ Below W.heap.size W w' ∧ Two w0 p g p2 v L (blks L q) w' := by
  unfold rE rN rB
  by_cases hk : k < 0 ∨ (q : Int) ≤ k
  · simp only [if_pos hk]
    refine (refRead_bad k W h.ref (by rw [blks_length]; exact hk)).mono ?_
    rintro e w' ⟨rfl, rfl⟩
    exact ⟨none, 0, rfl, Bytes8.nil _, Below.refl _ _, h⟩
  · simp only [if_neg hk]
    obtain ⟨j, rfl⟩ := Int.eq_ofNat_of_zero_le (show 0 ≤ k by omega)
    have hj : j < q := by omega
    have e1 : (blks L q)[j]'(by rw [blks_length]; exact hj) = blk L j := by simp [blks]
    have e2 := blk_length hL hj
    have := refRead_good j W h.ref (by rw [blks_length]; exact hj) (by rw [e1, e2]; omega)
    rw [e1, e2] at this
    exact this.mono fun e w' ⟨A, c, h1, h2, h3⟩ => ⟨A, c, h1, h2, h3, h.later h3⟩

end Go.Proofs.Ytadoclbalcecpaa
