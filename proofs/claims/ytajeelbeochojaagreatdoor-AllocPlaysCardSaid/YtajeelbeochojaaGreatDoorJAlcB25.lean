/-
  Joined: ImgE, ImgF, ImgG, ImgH, ImgI, ImgT, ImgJ.
-/
import Derived.Test.YtajeelbeochojaaGreatDoorJAlcB12
import Derived.Test.YtajeelbeochojaaGreatDoorJAlcB14
import Derived.Deep.AppendLies
import Derived.Lib.AppendStr
import Derived.Laws.IdiomStrings
import Derived.Deep.RegionLaw
/-
  Layer 3's laws: few writes.
-/
namespace Go.Proofs.YtajeelbeochojaaGreatDoor
open Go.RowKit
set_option linter.unusedVariables false
set_option linter.unusedSimpArgs false

end Go.Proofs.YtajeelbeochojaaGreatDoor

/-
  The reference's image in memory: a list of strings behind a pointer; its New.
-/
namespace Go.Proofs.YtajeelbeochojaaGreatDoor
open Go.RowKit
set_option linter.unusedVariables false
set_option linter.unusedSimpArgs false

/-- bytes as a string -/
def txt (l : List UInt8) : Value := .string ⟨l.toArray⟩
def txts (L : List (List UInt8)) : List Value := L.map txt
theorem txts_length (L : List (List UInt8)) : (txts L).length = L.length := by simp [txts]
/-- the reference's image at block p -/
structure RImg (w : World) (B p : Nat) (v : Value) (L : List (List UInt8)) : Prop where
  bp : B ≤ p
  hp : w.heap[p]? = some (.cells #[v] 76 (0, 0))
  own : w.ownsRow (p + 1) 9 1 v L.length (txts L)

theorem RImg.plt {w : World} {B p : Nat} {v : Value} {L : List (List UInt8)} (h : RImg w B p v L) : p < w.heap.size := block_lt h.hp
theorem own_later {w w' : World} {base : Nat} {e : TypeId} {size n : Nat} {v : Value} {xs : List Value} (h : w.ownsRow base e size v n xs) (hb : Below w.heap.size w w') : w'.ownsRow base e size v n xs := own_below h hb
theorem RImg.later {w w' : World} {B p : Nat} {v : Value} {L : List (List UInt8)} (h : RImg w B p v L) (hb : Below w.heap.size w w') : RImg w' B p v L :=
  ⟨h.bp, (hb.block p h.plt).trans h.hp, own_later h.own hb⟩
theorem RImg.kept {w w' : World} {B p g : Nat} {v : Value} {L : List (List UInt8)} (h : RImg w B p v L) (hk : Kept g w w') (hg : g < p) : RImg w' B p v L := by
  refine ⟨h.bp, (hk.block p (by omega)).trans h.hp, h.own.1, ?_⟩
  rcases h.own.2 with hn | ⟨g2, cap, cur, hv, hg2, hh, rest⟩
  · exact .inl hn
  · exact .inr ⟨g2, cap, cur, hv, hg2, (hk.block g2 (by omega)).trans hh, rest⟩
theorem RImg.cell {w : World} {B p : Nat} {v : Value} {L : List (List UInt8)} (h : RImg w B p v L) : w.cell? ⟨p, 0, none⟩ = some v := by
  rw [cell_of_row w p 0 _ _ _ h.hp]
  rfl
theorem RImg.free {w : World} {B p : Nat} {v : Value} {L : List (List UInt8)} (h : RImg w B p v L) : w.frozen? ⟨p, 0, none⟩ = false := frozen_of_row w p 0 _ _ h.hp
/-- another list of strings is laid in -/
theorem RImg.put {w : World} {B p : Nat} {v v' : Value} {L' : List (List UInt8)} (hB : B ≤ p) (hp : w.heap[p]? = some (.cells #[v] 76 (0, 0))) (ho : w.ownsRow (p + 1) 9 1 v' L'.length (txts L')) :
    RImg (w.setCell ⟨p, 0, none⟩ v') B p v' L' := by
  refine ⟨hB, ?_, ownsRow_setCell_below ho (by simp) _⟩
  rw [heap_setCell_same w p 0 _ _ v' hp]
  rfl

theorem RImg.new (w : World) : RImg (w.alloc (.cells #[.slice none 0 0] 76)) w.heap.size w.heap.size (.slice none 0 0) [] :=
  ⟨Nat.le_refl _, heap_alloc_new w _, World.ownsRow_nil _ _ _ _⟩

end Go.Proofs.YtajeelbeochojaaGreatDoor

/-
  The reference's Bytes, Read.
-/
namespace Go.Proofs.YtajeelbeochojaaGreatDoor
open Go.RowKit
set_option linter.unusedVariables false
set_option linter.unusedSimpArgs false

end Go.Proofs.YtajeelbeochojaaGreatDoor

/-
  The reference's Of.
-/
namespace Go.Proofs.YtajeelbeochojaaGreatDoor
open Go.RowKit
set_option linter.unusedVariables false
set_option linter.unusedSimpArgs false

end Go.Proofs.YtajeelbeochojaaGreatDoor

/-
  The reference's Read, Write.
-/
namespace Go.Proofs.YtajeelbeochojaaGreatDoor
open Go.RowKit
set_option linter.unusedVariables false
set_option linter.unusedSimpArgs false

theorem RImg.lit {w : World} {B p : Nat} {v : Value} {L : List (List UInt8)} (h : RImg w B p v L) (hp : 0 < L.length) :
    ∃ g cap cur, v = .slice (some ⟨g, 0, none⟩) L.length cap ∧ p + 1 ≤ g ∧ w.heap[g]? = some (.cells cur 9 (0, 0)) ∧ L.length ≤ cap ∧ cap ≤ maxLen ∧ cur.size = cap ∧ cur.toList.take L.length = txts L := by
  rcases h.own.2 with ⟨_, h0⟩ | ⟨g, cap, cur, hv, hg, hh, h1, h2, h3, h4⟩
  · omega
  · exact ⟨g, cap, cur, hv, hg, hh, h1, h2, by simpa using h3, by simpa using h4⟩

theorem RImg.set {w : World} {B p g cap k : Nat} {L : List (List UInt8)} {cur : Array Value} (l : List UInt8) (h : RImg w B p (.slice (some ⟨g, 0, none⟩) L.length cap) L) (hg : p + 1 ≤ g) (hh : w.heap[g]? = some (.cells cur 9 (0, 0)))
    (h1 : L.length ≤ cap) (h2 : cap ≤ maxLen) (h3 : cur.size = cap) (h4 : cur.toList.take L.length = txts L) (hk : k < L.length) : RImg (w.setCell ⟨g, k, none⟩ (.string ⟨l.toArray⟩)) B p (.slice (some ⟨g, 0, none⟩) L.length cap) (L.set k l) := by
  refine ⟨h.bp, ?_, ?_, .inr ⟨g, cap, cur.setIfInBounds k (.string ⟨l.toArray⟩), ?_, hg, heap_setCell_same w g k cur _ _ hh, ?_, h2, ?_, ?_⟩⟩
  · rw [heap_setCell_other w ⟨g, k, none⟩ p _ (by simp; omega)]
    exact h.hp
  · simp [txts_length]
  · rw [List.length_set]
  · rw [List.length_set]; exact h1
  · simpa using h3
  · rw [List.length_set, Nat.mul_one, Array.toList_setIfInBounds, List.take_set, h4]
    simp [txts, txt, List.map_set]

end Go.Proofs.YtajeelbeochojaaGreatDoor

/-
  An image and the reference's image, in one world.
-/
namespace Go.Proofs.YtajeelbeochojaaGreatDoor
open Go.RowKit
set_option linter.unusedVariables false
set_option linter.unusedSimpArgs false

/-- an image and the reference's image, in a later world -/
structure Two (w0 : World) (p g p2 : Nat) (v : Value) (L : List UInt8) (LL : List (List UInt8)) (W : World) : Prop where
  bel : Below w0.heap.size w0 W
  img : Img W w0.heap.size p g L
  ref : RImg W w0.heap.size p2 v LL

theorem Two.later {w0 W W' : World} {p g p2 : Nat} {v : Value} {L : List UInt8} {LL : List (List UInt8)} (h : Two w0 p g p2 v L LL W) (hb : Below W.heap.size W W') : Two w0 p g p2 v L LL W' :=
  ⟨h.bel.trans (hb.mono h.bel.size), h.img.later hb, h.ref.later hb⟩

theorem Two.bytes {w0 W : World} {p g p2 : Nat} {v : Value} {L : List UInt8} {LL : List (List UInt8)} (h : Two w0 p g p2 v L LL W) :
    Calls Tryz.prog 25 #[.pointer (some ⟨p, 0, none⟩)] W fun e w' => ∃ A, e = .returned (.slice A L.length L.length) ∧ Bytes8 w' A L.length L.length L ∧ Below W.heap.size W w' ∧ Two w0 p g p2 v L LL w' :=
  (Bytes_img W h.img).mono fun e w' ⟨A, h1, h2, h3⟩ => ⟨A, h1, h2, h3, h.later h3⟩

end Go.Proofs.YtajeelbeochojaaGreatDoor

/-
  An image and the reference's image, written side by side.
-/
namespace Go.Proofs.YtajeelbeochojaaGreatDoor
open Go.RowKit
set_option linter.unusedVariables false
set_option linter.unusedSimpArgs false

/-- what a write of m bytes to block k of q tells -/
def wE (q : Nat) (k : Int) (m : Nat) : Int := if k < 0 ∨ (q : Int) ≤ k then 3 else if m = 256 then 0 else 1
def wL (q : Nat) (k : Int) (m : Nat) (L l : List UInt8) : List UInt8 := if wE q k m = 0 then splice L (k.toNat * 256) l else L
theorem wE_cases (q : Nat) (k : Int) (m : Nat) : ((k < 0 ∨ (q : Int) ≤ k) ∧ wE q k m = 3) ∨ (∃ j : Nat, k = j ∧ j < q ∧ m ≠ 256 ∧ wE q k m = 1) ∨ (∃ j : Nat, k = j ∧ j < q ∧ m = 256 ∧ wE q k m = 0) := by
  by_cases h : k < 0 ∨ (q : Int) ≤ k
  · exact .inl ⟨h, by simp [wE, h]⟩
  · obtain ⟨j, rfl⟩ := Int.eq_ofNat_of_zero_le (show 0 ≤ k by omega)
    by_cases hm : m = 256
    · exact .inr (.inr ⟨j, rfl, by omega, hm, by simp only [wE]; rw [if_neg h, if_pos hm]⟩)
    · exact .inr (.inl ⟨j, rfl, by omega, hm, by simp only [wE]; rw [if_neg h, if_neg hm]⟩)

theorem Two.write {w0 W : World} {p g p2 q : Nat} {v : Value} {L : List UInt8} {M : List (List UInt8)} (k : Int) (A : Option Addr) (m c : Nat) (l : List UInt8) (h : Two w0 p g p2 v L M W) (hL : L.length = q * 256) (hs : g < p2) (hl : Bytes8 w0 A m c l) :
    Calls Tryz.prog 55 #[.pointer (some ⟨p, 0, none⟩), .int .i64 k, .slice A m c] W fun e w' => e = .returned (.int .i64 (wE q k m)) ∧ Two w0 p g p2 v (wL q k m L l) M w' := by
  have hB := hl.below h.bel
  unfold wL
  rcases wE_cases q k m with ⟨hk, e⟩ | ⟨j, rfl, hj, hm, e⟩ | ⟨j, rfl, hj, hm, e⟩
  · rw [e, if_neg (by decide)]
    exact (Write_bad p k q A m c W (Blocks_img W h.img hL) hk).mono fun e w' ⟨h1, h2⟩ => ⟨h1, h2 ▸ h⟩
  · rw [e, if_neg (by decide)]
    exact (Write_size j A m c W h.img hL hj hm).mono fun e w' ⟨h1, h2⟩ => ⟨h1, h2 ▸ h⟩
  · rw [e, if_pos rfl]
    subst hm
    exact (Write_img j A c W h.img hL hj hB).mono fun e w' ⟨h1, h2, h3⟩ => ⟨h1, h.bel.trans (h2.below h.img.bg), h3, h.ref.kept h2 hs⟩

end Go.Proofs.YtajeelbeochojaaGreatDoor
