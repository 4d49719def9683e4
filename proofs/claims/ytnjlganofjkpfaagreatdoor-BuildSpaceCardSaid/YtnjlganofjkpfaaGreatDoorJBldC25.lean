/-
  Joined: ImgE, ImgF, ImgG, ImgH, ImgI, ImgT, ImgJ.
-/
import Derived.Test.YtnjlganofjkpfaaGreatDoorJBldC12
import Derived.Test.YtnjlganofjkpfaaGreatDoorJBldC13
import Derived.Deep.AppendLies
import Derived.Lib.AppendStr
import Derived.Laws.IdiomStrings
import Derived.Deep.RegionLaw
/-
  Layer 3's laws: few writes.
-/
namespace Go.Proofs.YtnjlganofjkpfaaGreatDoor
open Go.RowKit
set_option linter.unusedVariables false
set_option linter.unusedSimpArgs false

end Go.Proofs.YtnjlganofjkpfaaGreatDoor

/-
  The reference's image in memory: a list of strings behind a pointer; its New.
-/
namespace Go.Proofs.YtnjlganofjkpfaaGreatDoor
open Go.RowKit
set_option linter.unusedVariables false
set_option linter.unusedSimpArgs false

/-- bytes as a string -/
def txt (l : List UInt8) : Value := .string ⟨l.toArray⟩
def txts (L : List (List UInt8)) : List Value := L.map txt
theorem txts_length (L : List (List UInt8)) : (txts L).length = L.length := by simp [txts]
theorem txts_at (L : List (List UInt8)) (k : Nat) (h : k < L.length) : (txts L)[k]? = some (txt L[k]) := by simp [txts, h]

/-- the reference's image at block p -/
structure RImg (w : World) (B p : Nat) (v : Value) (L : List (List UInt8)) : Prop where
  bp : B ≤ p
  hp : w.heap[p]? = some (.cells #[v] 63 (0, 0))
  own : w.ownsRow (p + 1) 9 1 v L.length (txts L)

theorem RImg.plt {w : World} {B p : Nat} {v : Value} {L : List (List UInt8)} (h : RImg w B p v L) : p < w.heap.size := block_lt h.hp
theorem own_later {w w' : World} {base : Nat} {e : TypeId} {size n : Nat} {v : Value} {xs : List Value} (h : w.ownsRow base e size v n xs) (hb : Below w.heap.size w w') : w'.ownsRow base e size v n xs := own_below h hb
theorem RImg.later {w w' : World} {B p : Nat} {v : Value} {L : List (List UInt8)} (h : RImg w B p v L) (hb : Below w.heap.size w w') : RImg w' B p v L :=
  ⟨h.bp, (hb.block p h.plt).trans h.hp, own_later h.own hb⟩
theorem RImg.kept {w w' : World} {B p g : Nat} {v : Value} {L : List (List UInt8)} (h : RImg w B p v L) (hk : Kept g w w') (hg : g < p) : RImg w' B p v L := by
  refine ⟨h.bp, (hk.block p (by omega)).trans h.hp, h.own.1, ?_⟩
  rcases h.own.2 with hn | ⟨g2, cap, cur, hv, hg2, hh, rest⟩
  · exact .inl hn
  · exact .inr ⟨g2, cap, cur, hv, hg2, (hk.block g2 (by omega)).trans hh, rest⟩
theorem RImg.form {w : World} {B p : Nat} {v : Value} {L : List (List UInt8)} (h : RImg w B p v L) : ∃ A c, v = .slice A L.length c ∧ L.length ≤ c ∧ c ≤ 9223372036854775807 ∧ w.cell? ⟨p, 0, none⟩ = some (.slice A L.length c) ∧ Row w A (txts L) := by
  obtain ⟨A, c, rfl, h1, h2⟩ := ownsRow_form h.own
  refine ⟨A, c, rfl, h1, by simpa [maxLen] using h2, ?_, Row.of_own h.own⟩
  rw [cell_of_row w p 0 _ _ _ h.hp]
  rfl
theorem RImg.cell {w : World} {B p : Nat} {v : Value} {L : List (List UInt8)} (h : RImg w B p v L) : w.cell? ⟨p, 0, none⟩ = some v := by
  rw [cell_of_row w p 0 _ _ _ h.hp]
  rfl
theorem RImg.free {w : World} {B p : Nat} {v : Value} {L : List (List UInt8)} (h : RImg w B p v L) : w.frozen? ⟨p, 0, none⟩ = false := frozen_of_row w p 0 _ _ h.hp
/-- another list of strings is laid in -/
theorem RImg.put {w : World} {B p : Nat} {v v' : Value} {L' : List (List UInt8)} (hB : B ≤ p) (hp : w.heap[p]? = some (.cells #[v] 63 (0, 0))) (ho : w.ownsRow (p + 1) 9 1 v' L'.length (txts L')) :
    RImg (w.setCell ⟨p, 0, none⟩ v') B p v' L' := by
  refine ⟨hB, ?_, ownsRow_setCell_below ho (by simp) _⟩
  rw [heap_setCell_same w p 0 _ _ v' hp]
  rfl

theorem RImg.new (w : World) : RImg (w.alloc (.cells #[.slice none 0 0] 63)) w.heap.size w.heap.size (.slice none 0 0) [] :=
  ⟨Nat.le_refl _, heap_alloc_new w _, World.ownsRow_nil _ _ _ _⟩

end Go.Proofs.YtnjlganofjkpfaaGreatDoor

/-
  The reference's Bytes, Read.
-/
namespace Go.Proofs.YtnjlganofjkpfaaGreatDoor
open Go.RowKit
set_option linter.unusedVariables false
set_option linter.unusedSimpArgs false

end Go.Proofs.YtnjlganofjkpfaaGreatDoor

/-
  The reference's Of.
-/
namespace Go.Proofs.YtnjlganofjkpfaaGreatDoor
open Go.RowKit
set_option linter.unusedVariables false
set_option linter.unusedSimpArgs false

/-- the first q blocks -/
def blks (l : List UInt8) (q : Nat) : List (List UInt8) := (List.range q).map (blk l)
theorem blks_length (l : List UInt8) (q : Nat) : (blks l q).length = q := by simp [blks]
end Go.Proofs.YtnjlganofjkpfaaGreatDoor

/-
  The reference's Read, Write.
-/
namespace Go.Proofs.YtnjlganofjkpfaaGreatDoor
open Go.RowKit
set_option linter.unusedVariables false
set_option linter.unusedSimpArgs false

set_option maxRecDepth 100000 in
set_option maxHeartbeats 800000 in
theorem refWrite_bad {B p : Nat} {v : Value} {L : List (List UInt8)} (k : Int) (A2 : Option Addr) (m c2 : Nat) (w : World) (h : RImg w B p v L) (hk : k < 0 ∨ (L.length : Int) ≤ k) :
    Calls Tryz.prog 84 #[.pointer (some ⟨p, 0, none⟩), .int .i64 k, .slice A2 m c2] w fun e w' => e = .returned (.int .i64 3) ∧ w = w' := by
  obtain ⟨A, c, rfl, hcap, hmost, hcell, hrow⟩ := h.form
  clear h hrow
  generalize L.length = n at *
  by_cases h0 : k < 0
  · clear hk
    go_enter Tryz.func84, Tryz.ntmps84
    go_wp2
    go_ret
    exact ⟨rfl, rfl⟩
  · have h1 : (n : Int) ≤ k := by omega
    clear hk
    go_enter Tryz.func84, Tryz.ntmps84
    go_wp2
    go_ret
    exact ⟨rfl, rfl⟩

theorem RImg.lit {w : World} {B p : Nat} {v : Value} {L : List (List UInt8)} (h : RImg w B p v L) (hp : 0 < L.length) :
    ∃ g cap cur, v = .slice (some ⟨g, 0, none⟩) L.length cap ∧ p + 1 ≤ g ∧ w.heap[g]? = some (.cells cur 9 (0, 0)) ∧ L.length ≤ cap ∧ cap ≤ maxLen ∧ cur.size = cap ∧ cur.toList.take L.length = txts L := by
  rcases h.own.2 with ⟨_, h0⟩ | ⟨g, cap, cur, hv, hg, hh, h1, h2, h3, h4⟩
  · omega
  · exact ⟨g, cap, cur, hv, hg, hh, h1, h2, by simpa using h3, by simpa using h4⟩

theorem RImg.set {w : World} {B p g cap k : Nat} {L : List (List UInt8)} {cur : Array Value} (l : List UInt8) (h : RImg w B p (.slice (some ⟨g, 0, none⟩) L.length cap) L) (hg : p + 1 ≤ g) (hh : w.heap[g]? = some (.cells cur 9 (0, 0)))
    (h1 : L.length ≤ cap) (h2 : cap ≤ maxLen) (h3 : cur.size = cap) (h4 : cur.toList.take L.length = txts L) (hk : k < L.length) : RImg (w.setCell ⟨g, k, none⟩ (.string ⟨l.toArray⟩)) B p (.slice (some ⟨g, 0, none⟩) L.length cap) (L.set k l) := by
  refine ⟨h.bp, ?_, ?_, .inr ⟨g, cap, cur.setIfInBounds k (.string ⟨l.toArray⟩), ?_, hg, heap_setCell_same w g k cur _ _ hh, ?_, h2, ?_, ?_⟩⟩
  · rw [heap_setCell_other w ⟨g, k, none⟩ p _ (by simp; omega)]
    exact h.hp
  · simp [txts_length]
  · rw [List.length_set]
  · rw [List.length_set]; exact h1
  · simpa using h3
  · rw [List.length_set, Nat.mul_one, Array.toList_setIfInBounds, List.take_set, h4]
    simp [txts, txt, List.map_set]

end Go.Proofs.YtnjlganofjkpfaaGreatDoor

/-
  An image and the reference's image, in one world.
-/
namespace Go.Proofs.YtnjlganofjkpfaaGreatDoor
open Go.RowKit
set_option linter.unusedVariables false
set_option linter.unusedSimpArgs false

/-- an image and the reference's image, in a later world -/
structure Two (w0 : World) (p g p2 : Nat) (v : Value) (L : List UInt8) (LL : List (List UInt8)) (W : World) : Prop where
  bel : Below w0.heap.size w0 W
  img : Img W w0.heap.size p g L
  ref : RImg W w0.heap.size p2 v LL

theorem Two.later {w0 W W' : World} {p g p2 : Nat} {v : Value} {L : List UInt8} {LL : List (List UInt8)} (h : Two w0 p g p2 v L LL W) (hb : Below W.heap.size W W') : Two w0 p g p2 v L LL W' :=
  ⟨h.bel.trans (hb.mono h.bel.size), h.img.later hb, h.ref.later hb⟩

theorem Two.bytes {w0 W : World} {p g p2 : Nat} {v : Value} {L : List UInt8} {LL : List (List UInt8)} (h : Two w0 p g p2 v L LL W) :
    Calls Tryz.prog 17 #[.pointer (some ⟨p, 0, none⟩)] W fun e w' => ∃ A, e = .returned (.slice A L.length L.length) ∧ Bytes8 w' A L.length L.length L ∧ Below W.heap.size W w' ∧ Two w0 p g p2 v L LL w' :=
  (Bytes_img W h.img).mono fun e w' ⟨A, h1, h2, h3⟩ => ⟨A, h1, h2, h3, h.later h3⟩

end Go.Proofs.YtnjlganofjkpfaaGreatDoor

/-
  An image and the reference's image, written side by side.
-/
namespace Go.Proofs.YtnjlganofjkpfaaGreatDoor
open Go.RowKit
set_option linter.unusedVariables false
set_option linter.unusedSimpArgs false

/-- what a write of m bytes to block k of q tells -/
def wE (q : Nat) (k : Int) (m : Nat) : Int := if k < 0 ∨ (q : Int) ≤ k then 3 else if m = 256 then 0 else 1
def wL (q : Nat) (k : Int) (m : Nat) (L l : List UInt8) : List UInt8 := if wE q k m = 0 then splice L (k.toNat * 256) l else L
def wM (q : Nat) (k : Int) (m : Nat) (M : List (List UInt8)) (l : List UInt8) : List (List UInt8) := if wE q k m = 0 then M.set k.toNat l else M

theorem wE_cases (q : Nat) (k : Int) (m : Nat) : ((k < 0 ∨ (q : Int) ≤ k) ∧ wE q k m = 3) ∨ (∃ j : Nat, k = j ∧ j < q ∧ m ≠ 256 ∧ wE q k m = 1) ∨ (∃ j : Nat, k = j ∧ j < q ∧ m = 256 ∧ wE q k m = 0) := by
  by_cases h : k < 0 ∨ (q : Int) ≤ k
  · exact .inl ⟨h, by simp [wE, h]⟩
  · obtain ⟨j, rfl⟩ := Int.eq_ofNat_of_zero_le (show 0 ≤ k by omega)
    by_cases hm : m = 256
    · exact .inr (.inr ⟨j, rfl, by omega, hm, by simp only [wE]; rw [if_neg h, if_pos hm]⟩)
    · exact .inr (.inl ⟨j, rfl, by omega, hm, by simp only [wE]; rw [if_neg h, if_neg hm]⟩)

theorem wM_blks {q : Nat} {k : Int} {m : Nat} {L l : List UInt8} (hL : L.length = q * 256) (hl : l.length = m) : wM q k m (blks L q) l = blks (wL q k m L l) q := by
  unfold wL wM
  rcases wE_cases q k m with ⟨_, e⟩ | ⟨j, rfl, hj, hm, e⟩ | ⟨j, rfl, hj, hm, e⟩
  · rw [e, if_neg (by decide), if_neg (by decide)]
  · rw [e, if_neg (by decide), if_neg (by decide)]
  · rw [e, if_pos rfl, if_pos rfl]
    apply List.ext_getElem
    · simp [blks]
    · intro i h1 h2
      have hi : i < q := by simpa [blks] using h2
      simp only [blks, List.getElem_set, List.getElem_map, List.getElem_range, Int.toNat_natCast]
      rw [blk_splice hL (by omega) hj hi]
      by_cases hij : i = j
      · rw [if_pos hij, if_pos hij.symm]
      · rw [if_neg hij, if_neg (fun h => hij h.symm)]

end Go.Proofs.YtnjlganofjkpfaaGreatDoor
