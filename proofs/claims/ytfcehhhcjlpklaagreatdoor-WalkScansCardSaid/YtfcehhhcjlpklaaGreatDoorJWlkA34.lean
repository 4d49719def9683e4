/-
  Joined: BlkR, BlkS, BlkW, WlkS, WlkU.
-/
import Derived.Test.YtfcehhhcjlpklaaGreatDoorJWlkA33
import Derived.Test.YtfcehhhcjlpklaaGreatDoorJWlkA19
import Derived.Test.YtfcehhhcjlpklaaGreatDoorJWlkA18
import Derived.Test.YtfcehhhcjlpklaaGreatDoorJWlkA14
import Derived.Test.YtfcehhhcjlpklaaGreatDoorJWlkA13
import Derived.Test.YtfcehhhcjlpklaaGreatDoorJWlkA31
import Derived.Test.YtfcehhhcjlpklaaGreatDoorJWlkA03
import Derived.Test.YtfcehhhcjlpklaaGreatDoorJWlkA29
import Derived.Test.YtfcehhhcjlpklaaGreatDoorJWlkA12
import Derived.Deep.RegionLaw
import Derived.Test.YtfcehhhcjlpklaaGreatDoorJWlkA32
import Derived.BigQuiet
import Derived.Test.YtfcehhhcjlpklaaGreatDoorJWlkA28
import Derived.Test.YtfcehhhcjlpklaaGreatDoorJWlkA23
/-
  Layer 11's reference: At, in, Bits, Index.
-/
namespace Go.Proofs.YtfcehhhcjlpklaaGreatDoor
open Go.RowKit
set_option linter.unusedVariables false
set_option linter.unusedSimpArgs false

set_option maxRecDepth 100000 in
set_option maxHeartbeats 4000000 in
theorem refAt_newer (b : Int) {A : Option Addr} {n c : Nat} {bs : List Int} {code : Int} (hc : code ≠ 0) (w : World) (hI : Ints w A n c bs) (hn : n ≤ 300) :
    Calls Tryz.prog 42 #[.int .i64 b, .agg #[.slice A n c, .int .i64 code]] w fun e w' => ∃ A2 c2, e = .returned (.agg #[.slice A2 (n + 1) c2, .int .i64 code]) ∧ Ints w' A2 (n + 1) c2 (b :: bs) ∧ Below w.heap.size w w' ∧ Newer (w.heap.size + 2) A2 := by
  have hcb : (code == 0) = false := by simpa using hc
  have hle := hI.le
  have HI := Lib.hid hI
  clear hI hc
  go_enter Tryz.func42, Tryz.ntmps42
  have b1 : Below w.heap.size w (w.alloc (.cells #[.slice A n c, .int .i64 code] 45)) := (Below.refl _ _).alloc (Nat.le_refl _) _
  have b2 : Below w.heap.size w ((w.alloc (.cells #[.slice A n c, .int .i64 code] 45)).alloc (.cells #[.slice none 0 0, .int .i64 0] 45)) := b1.alloc b1.size _
  have hs : (w.alloc (.cells #[.slice A n c, .int .i64 code] 45)).heap.size = w.heap.size + 1 := by simp
  have h0 : ((w.alloc (.cells #[.slice A n c, .int .i64 code] 45)).alloc (.cells #[.slice none 0 0, .int .i64 0] 45)).heap[w.heap.size]? = some (.cells #[.slice A n c, .int .i64 code] 45 (0, 0)) := (Below.heap_alloc _ _ _ (by omega)).trans (MapKept.heap_alloc w _).1
  have h1 := (MapKept.heap_alloc (w.alloc (.cells #[.slice A n c, .int .i64 code] 45)) (.cells #[.slice none 0 0, .int .i64 0] 45)).1
  rw [hs] at h1
  have hsz : ((w.alloc (.cells #[.slice A n c, .int .i64 code] 45)).alloc (.cells #[.slice none 0 0, .int .i64 0] 45)).heap.size = w.heap.size + 2 := by simp
  have H0 := Lib.hid h0
  have H1 := Lib.hid h1
  have B2 := Lib.hid b2
  have HSz := Lib.hid hsz
  have OWN := Lib.hid (fun W => own_one ((w.alloc (.cells #[.slice A n c, .int .i64 code] 45)).alloc (.cells #[.slice none 0 0, .int .i64 0] 45)) W b)
  rw [hsz] at OWN
  have hRw : Hid (∀ W, Below w.heap.size w W → Row W A (i64s bs)) := fun W h => (HI.out.below h).row
  have hBA := Lib.hid (((Below.refl (w.heap.size + 2) ((w.alloc (.cells #[.slice A n c, .int .i64 code] 45)).alloc (.cells #[.slice none 0 0, .int .i64 0] 45))).alloc (by omega) (.cells #[.int .i64 b] 3)).drew)
  clear h0 h1 b1 b2 hs hsz
  go_wp2
  go_region_law (first
    | (refine step_append_row _ rfl (.tmp 10) (.tmp 12) 26 rfl (w.heap.size + 2) 3 (.int .i64 0) 8 Tryz.underlying26 info_i64 rfl (.slice (some ⟨w.heap.size + 2, 0, none⟩) 1 1) 1 [.int .i64 b] rfl (OWN.out _ (Below.refl _ _).drew) (by simp) A (i64s bs) n c rfl (by rw [i64s_length]; exact HI.out.len) (hRw.out _ ((B2.out.alloc B2.out.size _).drew)) (i64s_one _) (by omega) (by omega) ?_
       intro v2 w2 hown2 hs2 hb2
       rw [Nat.add_comm 1 n] at hown2
       have hb3 := hBA.out.trans hb2
       have hp0 := (hb3.block w.heap.size (by omega)).trans H0.out
       have hp1 := (hb3.block (w.heap.size + 1) (by omega)).trans H1.out
       have HP1 := Lib.hid hp1
       have HB3 := Lib.hid (B2.out.trans (hb3.mono (by omega)))
       have k1 : w2.cell? ⟨w.heap.size, 1, none⟩ = some (.int .i64 code) := by rw [cell_of_row w2 w.heap.size 1 _ _ _ hp0]; rfl
       have k2 : w2.cell? ⟨w.heap.size + 1, 0, none⟩ = some (.slice none 0 0) := by rw [cell_of_row w2 (w.heap.size + 1) 0 _ _ _ hp1]; rfl
       have k3 : w2.cell? ⟨w.heap.size + 1, 1, none⟩ = some (.int .i64 0) := by rw [cell_of_row w2 (w.heap.size + 1) 1 _ _ _ hp1]; rfl
       have f0 := Lib.frozen_of_heap hp1 0
       have f1 := Lib.frozen_of_heap hp1 1
       clear hb2 hb3 hp0 hp1
       obtain ⟨A2, c2, hv2, h62, h63⟩ := ownsRow_form hown2.out
       rw [hv2]))
  all_goals go_wp2
  all_goals
    refine bodyPost_ret (results_rf Tryz.results42 _ _ (w.heap.size + 1) (.slice A2 (n + 1) c2) (.int .i64 code) rfl (two_sets HP1.out)) rfl ?_
    have ho : w2.ownsRow (w.heap.size + 2) 3 1 (.slice A2 (n + 1) c2) (n + 1) (i64s (b :: bs)) := by
      have := hown2.out
      rw [hv2] at this
      exact this
    obtain ⟨A3, c3, he, hI⟩ := Ints.of_own ho
    injection he with e1 e2 e3
    subst e1 e3
    refine ⟨A2, c2, rfl, hI.kept2 fun ad e => ?_, (HB3.out.setCell (p := ⟨w.heap.size + 1, 0, none⟩) (by simp) _).setCell (p := ⟨w.heap.size + 1, 1, none⟩) (by simp) _, fun ad e => (own_apart ho ad.block (by rw [e]; rfl)).1⟩
    have := (own_apart ho ad.block (by rw [e]; rfl)).1
    omega

theorem two_keep (w : World) (g : Nat) (a b : Value) {B : Nat} (hg : g < B) (k : Nat) (hk : B ≤ k) : ((w.setCell ⟨g, 0, none⟩ a).setCell ⟨g, 1, none⟩ b).heap[k]? = w.heap[k]? := by
  rw [heap_setCell_other _ _ k _ (by show k ≠ g; omega), heap_setCell_other _ _ k _ (by show k ≠ g; omega)]
theorem below_store2 {B g : Nat} {w0 w : World} (hb : Below B w0 w) (hg : B ≤ g) (a b : Value) : Below B w0 ((w.setCell ⟨g, 0, none⟩ a).setCell ⟨g, 1, none⟩ b) :=
  (hb.setCell (p := ⟨g, 0, none⟩) hg _).setCell (p := ⟨g, 1, none⟩) hg _

/-- an error's variable, all below as it was -/
def Bx (w W : World) : Prop := SmS w W w.heap.size (.slice none 0 0) (.int .i64 0)
theorem Bx.start (w : World) : Bx w (w.alloc (.cells #[.slice none 0 0, .int .i64 0] 45)) := ⟨(Below.refl _ _).alloc (Nat.le_refl _) _, FltAt.new w _ _⟩
theorem Bx.later {w W W' : World} (h : Bx w W) (hb : Below W.heap.size W W') : Bx w W' := SmS.later h hb
theorem Bx.low {w W : World} (h : Bx w W) : w.heap.size + 1 ≤ W.heap.size := block_lt h.flt

set_option maxRecDepth 100000 in
set_option maxHeartbeats 800000 in
theorem ref11At_any (no x : Int) (w : World) :
    Calls Tryz.prog 23 #[.int .i64 no, .int .i64 x] w fun e w' => ∃ A n c, e = .returned (.agg #[.slice A n c, .int .i64 x]) ∧ Ints w' A n c (atL no x) ∧ Newer w.heap.size A ∧ Below w.heap.size w w' := by
  have AT : Hid (∀ W, Bx w W → Calls Tryz.prog 42 #[.int .i64 no, .agg #[.slice none 0 0, .int .i64 x]] W fun e w' => ∃ A n c, e = .returned (.agg #[.slice A n c, .int .i64 x]) ∧ Ints w' A n c (atL no x) ∧ Newer (w.heap.size + 1) A ∧ Bx w w') := fun W hW => by
    by_cases hx : x = 0
    · subst hx
      exact (refAt_nil no none 0 0 W).mono fun e w' ⟨h1, h2⟩ => ⟨none, 0, 0, h1, Ints.nil _, Newer.nil _, hW.later h2⟩
    · rw [atL, if_neg hx]
      refine (refAt_newer no hx W (Ints.nil W) (by omega)).mono ?_
      rintro e w' ⟨A, c, h1, h2, h3, h4⟩
      have := hW.low
      exact ⟨A, 1, c, h1, h2, h4.mono (by omega), hW.later h3⟩
  have hN0 := Bx.start w
  generalize atL no x = l at *
  go_enter Tryz.func23, Tryz.ntmps23
  go_wp2_with (go_at_call 42; (with_reducible refine (AT.out _ hN0).mono ?_); rintro e w1 ⟨A1, n1, c1, rfl, hI, hn, hN1⟩; have HI := Lib.hid hI; have HNW := Lib.hid hn; clear hI hn; obtain ⟨⟨z0, z1⟩, y0, y1⟩ := hN1.flt.cs)
  refine bodyPost_ret (results_rf Tryz.results23 _ _ w.heap.size (.slice A1 n1 c1) (.int .i64 x) rfl (hN1.flt.store _ _)) rfl ?_
  exact ⟨A1, n1, c1, rfl, HI.out.newer HNW.out (two_keep w1 w.heap.size _ _ (by omega)), HNW.out.mono (by omega), below_store2 hN1.bel (Nat.le_refl _) _ _⟩

set_option maxRecDepth 100000 in
set_option maxHeartbeats 800000 in
theorem ref11in_any {B p : Nat} {v : Value} {L : List UInt8} {n : Nat} (no kind : Int) (w : World) (h : RImg w B p v (blks L n)) (hL : L.length = n * 256) :
    Calls Tryz.prog 74 #[.pointer (some ⟨p, 0, none⟩), .int .i64 no, .int .i64 kind] w fun e w' => ∃ A m c, e = .returned (.tuple #[.slice A m c, .int .i64 (inE11 L n no kind)]) ∧ Bytes8 w' A m c (inB11 L n no kind) ∧ Below w.heap.size w w' := by
  cases ho : outB n no with
  | true =>
    have R := Lib.hid (refIRead_bad no w h (by rw [blks_length]; exact outB_iff.1 ho))
    have e1 : inE11 L n no kind = 3 := by rw [inE11, ho]; rfl
    have e2 : inB11 L n no kind = [] := by rw [inB11, ho]; rfl
    rw [e1, e2]
    clear h e1 e2 ho
    go_enter Tryz.func74, Tryz.ntmps74
    go_wp2_with (go_at_call 102; (with_reducible refine (R.out).mono ?_); rintro e w1 ⟨rfl, rfl⟩)
    go_ret2
    exact ⟨none, 0, 0, rfl, Bytes8.nil _, Below.refl _ _⟩
  | false =>
    obtain ⟨h0, h1⟩ := outB_not.1 ho
    obtain ⟨k, rfl⟩ := Int.eq_ofNat_of_zero_le h0
    have hk : k < (blks L n).length := by rw [blks_length]; omega
    have hkk : (blks L n)[k] = blk L k := by simp [blks]
    have hbl : (blk L k).length = 256 := blk_length hL (by omega)
    have R : Hid (Calls Tryz.prog 102 #[.pointer (some ⟨p, 0, none⟩), .int .i64 (k : Int)] w fun e w' => ∃ A c, e = .returned (.tuple #[.slice A 256 c, .int .i64 0]) ∧ Bytes8 w' A 256 c (blk L k) ∧ Below w.heap.size w w') := by
      have := refIRead_good k w h hk (by rw [hkk, hbl]; omega)
      rw [hkk, hbl] at this
      exact this
    have O := Lib.hid (fun W A c (hB : Bytes8 W A 256 c (blk L k)) => refOpen_any A 256 c (blk L k) kind (k : Int) W hB)
    have e1 : inE11 L n k kind = openE (blk L k) kind k := by rw [inE11, ho]; rfl
    have e2 : inB11 L n k kind = openB (blk L k) kind k := by rw [inB11, ho]; rfl
    rw [e1, e2]
    clear h e1 e2 ho hk hkk hbl
    generalize openE (blk L k) kind k = x at *
    generalize openB (blk L k) kind k = bb at *
    generalize blk L k = bl at *
    go_enter Tryz.func74, Tryz.ntmps74
    go_wp2_with (first
      | (go_at_call 102; (with_reducible refine (R.out).mono ?_); rintro e w1 ⟨A1, c1, rfl, hB1, hb1⟩; have HB1 := Lib.hid hB1; clear hB1)
      | (go_at_call 103; (with_reducible refine (O.out _ _ _ HB1.out).mono ?_); rintro e w2 ⟨A2, m2, c2, rfl, hB2, hb2⟩; have HB2 := Lib.hid hB2; clear hB2))
    go_ret2
    exact ⟨A2, m2, c2, rfl, HB2.out, hb1.trans (hb2.mono hb1.size)⟩

theorem Trs.newer {w w' : World} {A : Option Addr} {n c : Nat} {l : List Slt} {B : Nat} (h : Trs w A n c l) (hA : Newer B A) (hk : ∀ k, B ≤ k → w'.heap[k]? = w.heap[k]?) : Trs w' A n c l :=
  ⟨h.len, h.cap, h.most, fun k hkl => by
    obtain ⟨ad, e, h0, h1, h2⟩ := h.row k hkl
    have hb : ∀ j, w'.cell? (ad.add j) = w.cell? (ad.add j) := fun j => World.cell?_of_block (hk _ (by rw [addr_add_block]; exact hA ad e))
    exact ⟨ad, e, (hb _).trans h0, (hb _).trans h1, (hb _).trans h2⟩⟩

end Go.Proofs.YtfcehhhcjlpklaaGreatDoor

/-
  Layer 11's reference: Super, Node.
-/
namespace Go.Proofs.YtfcehhhcjlpklaaGreatDoor
open Go.RowKit
set_option linter.unusedVariables false
set_option linter.unusedSimpArgs false

/-- a node's variable and an error's, all below as it was -/
structure RfN (w W : World) : Prop where
  res : NodAt W w.heap.size 0 false (.slice none 0 0) (.slice none 0 0)
  flt : FltAt W (w.heap.size + 1) (.slice none 0 0) (.int .i64 0)
  bel : Below w.heap.size w W
theorem RfN.later {w W W' : World} (h : RfN w W) (hb : Below W.heap.size W W') : RfN w W' := ⟨h.res.later hb, h.flt.later hb, h.bel.trans (hb.mono h.bel.size)⟩
theorem RfN.low {w W : World} (h : RfN w W) : w.heap.size + 2 ≤ W.heap.size := by have := block_lt h.flt; omega
theorem RfN.facts {w W : World} (h : RfN w W) : NodC4 W w.heap.size 0 false (.slice none 0 0) (.slice none 0 0) ∧ FltC2 W (w.heap.size + 1) (.slice none 0 0) (.int .i64 0) := ⟨h.res.cs, h.flt.cs⟩
theorem RfN.start (w : World) : RfN w ((w.alloc (.cells #[.int .i64 0, .bool false, .slice none 0 0, .slice none 0 0] 55)).alloc (.cells #[.slice none 0 0, .int .i64 0] 45)) := by
  obtain ⟨h1, h2, h3⟩ := two_new w (.cells #[.int .i64 0, .bool false, .slice none 0 0, .slice none 0 0] 55) (.cells #[.slice none 0 0, .int .i64 0] 45)
  exact ⟨h1, h2, h3⟩
theorem RfN.done {w W : World} (hs : RfN w W) (tree : Int) (leaf : Bool) {A5 : Option Addr} {n5 c5 : Nat} {A6 : Option Addr} {n6 c6 : Nat} {ks : List Int} {vs : List (List UInt8)} (hN : NodIn W ⟨tree, leaf, ks, vs⟩ A5 n5 c5 A6 n6 c6) (h5 : Newer (w.heap.size + 2) A5) (h6 : Newer (w.heap.size + 2) A6) {A : Option Addr} {n c : Nat} {no x : Int} (hI : Ints W A n c (atL no x)) (hn : Newer (w.heap.size + 2) A) :
    NodAt ((((((W.setCell ⟨w.heap.size, 0, none⟩ (.int .i64 tree)).setCell ⟨w.heap.size, 1, none⟩ (.bool leaf)).setCell ⟨w.heap.size, 2, none⟩ (.slice A5 n5 c5)).setCell ⟨w.heap.size, 3, none⟩ (.slice A6 n6 c6)).setCell ⟨w.heap.size + 1, 0, none⟩ (.slice A n c)).setCell ⟨w.heap.size + 1, 1, none⟩ (.int .i64 x)) w.heap.size tree leaf (.slice A5 n5 c5) (.slice A6 n6 c6) ∧ FltAt ((((((W.setCell ⟨w.heap.size, 0, none⟩ (.int .i64 tree)).setCell ⟨w.heap.size, 1, none⟩ (.bool leaf)).setCell ⟨w.heap.size, 2, none⟩ (.slice A5 n5 c5)).setCell ⟨w.heap.size, 3, none⟩ (.slice A6 n6 c6)).setCell ⟨w.heap.size + 1, 0, none⟩ (.slice A n c)).setCell ⟨w.heap.size + 1, 1, none⟩ (.int .i64 x)) (w.heap.size + 1) (.slice A n c) (.int .i64 x) ∧ NodIn ((((((W.setCell ⟨w.heap.size, 0, none⟩ (.int .i64 tree)).setCell ⟨w.heap.size, 1, none⟩ (.bool leaf)).setCell ⟨w.heap.size, 2, none⟩ (.slice A5 n5 c5)).setCell ⟨w.heap.size, 3, none⟩ (.slice A6 n6 c6)).setCell ⟨w.heap.size + 1, 0, none⟩ (.slice A n c)).setCell ⟨w.heap.size + 1, 1, none⟩ (.int .i64 x)) ⟨tree, leaf, ks, vs⟩ A5 n5 c5 A6 n6 c6 ∧ BadAt ((((((W.setCell ⟨w.heap.size, 0, none⟩ (.int .i64 tree)).setCell ⟨w.heap.size, 1, none⟩ (.bool leaf)).setCell ⟨w.heap.size, 2, none⟩ (.slice A5 n5 c5)).setCell ⟨w.heap.size, 3, none⟩ (.slice A6 n6 c6)).setCell ⟨w.heap.size + 1, 0, none⟩ (.slice A n c)).setCell ⟨w.heap.size + 1, 1, none⟩ (.int .i64 x)) (.agg #[.slice A n c, .int .i64 x]) no x ∧ Below w.heap.size w ((((((W.setCell ⟨w.heap.size, 0, none⟩ (.int .i64 tree)).setCell ⟨w.heap.size, 1, none⟩ (.bool leaf)).setCell ⟨w.heap.size, 2, none⟩ (.slice A5 n5 c5)).setCell ⟨w.heap.size, 3, none⟩ (.slice A6 n6 c6)).setCell ⟨w.heap.size + 1, 0, none⟩ (.slice A n c)).setCell ⟨w.heap.size + 1, 1, none⟩ (.int .i64 x)) := by
  have h1 := hs.res.store tree leaf (.slice A5 n5 c5) (.slice A6 n6 c6)
  have h2 : FltAt ((((W.setCell ⟨w.heap.size, 0, none⟩ (.int .i64 tree)).setCell ⟨w.heap.size, 1, none⟩ (.bool leaf)).setCell ⟨w.heap.size, 2, none⟩ (.slice A5 n5 c5)).setCell ⟨w.heap.size, 3, none⟩ (.slice A6 n6 c6)) (w.heap.size + 1) (.slice none 0 0) (.int .i64 0) := four_other hs.flt (by omega) _ _ _ _
  have hk : ∀ k, w.heap.size + 2 ≤ k → ((((((W.setCell ⟨w.heap.size, 0, none⟩ (.int .i64 tree)).setCell ⟨w.heap.size, 1, none⟩ (.bool leaf)).setCell ⟨w.heap.size, 2, none⟩ (.slice A5 n5 c5)).setCell ⟨w.heap.size, 3, none⟩ (.slice A6 n6 c6)).setCell ⟨w.heap.size + 1, 0, none⟩ (.slice A n c)).setCell ⟨w.heap.size + 1, 1, none⟩ (.int .i64 x)).heap[k]? = W.heap[k]? := fun k hk => by
    rw [two_keep _ (w.heap.size + 1) _ _ (B := w.heap.size + 2) (by omega) k hk, four_keep _ w.heap.size _ _ _ _ (B := w.heap.size + 1) (by omega) k (by omega)]
  exact ⟨two_other h1 (by omega) _ _, h2.store _ _, hN.newer h5 h6 hk, ⟨A, n, c, rfl, hI.newer hn hk⟩, below_store2 (below_store7 hs.bel (Nat.le_refl _) _ _ _ _) (by omega) _ _⟩

/-- the same, newer than all that stood -/
def BadAtF (B : Nat) (w : World) (v : Value) (no x : Int) : Prop := ∃ A n c, v = rf A n c x ∧ Ints w A n c (atL no x) ∧ Newer B A
theorem BadAt.toF {B : Nat} {w : World} {A : Option Addr} {n c : Nat} {no x : Int} (h : BadAt w (.agg #[.slice A n c, .int .i64 x]) no x) (hn : Newer B A) : BadAtF B w (.agg #[.slice A n c, .int .i64 x]) no x := by
  obtain ⟨A2, n2, c2, e, h2⟩ := h
  simp only [rf] at e
  injection e with e
  injection e with e
  injection e with e1 e2
  injection e1 with g1 g2 g3
  subst g1; subst g2; subst g3
  exact ⟨A, n, c, rfl, h2, hn⟩

set_option maxRecDepth 100000 in
set_option maxHeartbeats 3200000 in
theorem ref11Node_anyF {B p : Nat} {v : Value} {L : List UInt8} {n : Nat} (no tr : Int) (w : World) (h : RImg w B p v (blks L n)) (hL : L.length = n * 256) :
    Calls Tryz.prog 44 #[.pointer (some ⟨p, 0, none⟩), .int .i64 no, .int .i64 tr] w fun e w' => ∃ f A5 n5 c5 A6 n6 c6, e = .returned (.tuple #[nodV (nodN11 L n no tr) A5 n5 c5 A6 n6 c6, f]) ∧ NodIn w' (nodN11 L n no tr) A5 n5 c5 A6 n6 c6 ∧ BadAtF w.heap.size w' f no (nodE11 L n no tr) ∧ Below w.heap.size w w' ∧ Newer w.heap.size A5 ∧ Newer w.heap.size A6 := by
  have AT : Hid (∀ W x, RfN w W → Calls Tryz.prog 23 #[.int .i64 no, .int .i64 x] W fun e w' => ∃ A n c, e = .returned (.agg #[.slice A n c, .int .i64 x]) ∧ Ints w' A n c (atL no x) ∧ Newer (w.heap.size + 2) A ∧ RfN w w') := fun W x hW => (ref11At_any no x W).mono fun e w' ⟨A, n, c, h1, h2, h3, h4⟩ => ⟨A, n, c, h1, h2, h3.mono hW.low, hW.later h4⟩
  have IN : Hid (∀ W, RfN w W → Calls Tryz.prog 74 #[.pointer (some ⟨p, 0, none⟩), .int .i64 no, .int .i64 2] W fun e w' => ∃ A m c, e = .returned (.tuple #[.slice A m c, .int .i64 (inE11 L n no 2)]) ∧ Bytes8 w' A m c (inB11 L n no 2) ∧ RfN w w') := fun W hW => (ref11in_any no 2 W (h.later hW.bel) hL).mono fun e w' ⟨A, m, c, h1, h2, h3⟩ => ⟨A, m, c, h1, h2, hW.later h3⟩
  have RD : Hid (∀ W A m c, RfN w W → Bytes8 W A m c (inB11 L n no 2) → Calls Tryz.prog 75 #[.slice A m c] W fun e w' => ∃ A5 n5 c5 A6 n6 c6, e = .returned (.tuple #[nodV (readN (inB11 L n no 2)) A5 n5 c5 A6 n6 c6, .int .i64 (readNE (inB11 L n no 2))]) ∧ NodIn w' (readN (inB11 L n no 2)) A5 n5 c5 A6 n6 c6 ∧ RfN w w' ∧ Newer (w.heap.size + 2) A5 ∧ Newer (w.heap.size + 2) A6) := fun W A m c hW hB => (refRead_any7F W A m c _ hB).mono fun e w' ⟨A5, n5, c5, A6, n6, c6, h1, h2, h3, h4, h5⟩ => ⟨A5, n5, c5, A6, n6, c6, h1, h2, hW.later h3, h4.mono hW.low, h5.mono hW.low⟩
  have hN0 := RfN.start w
  obtain ⟨X, hX⟩ : ∃ X, nodE11 L n no tr = X := ⟨_, rfl⟩
  obtain ⟨R, hR⟩ : ∃ R : Nod, nodN11 L n no tr = R := ⟨_, rfl⟩
  rw [hX, hR]
  have key : (inE11 L n no 2 ≠ 0 ∧ X = inE11 L n no 2 ∧ R = Nod.zero) ∨ (inE11 L n no 2 = 0 ∧ readNE (inB11 L n no 2) ≠ 0 ∧ X = readNE (inB11 L n no 2) ∧ R = Nod.zero) ∨ (inE11 L n no 2 = 0 ∧ readNE (inB11 L n no 2) = 0 ∧ (tr ≠ 0 ∧ (readN (inB11 L n no 2)).tree ≠ tr) ∧ X = 6 ∧ R = Nod.zero) ∨ (inE11 L n no 2 = 0 ∧ readNE (inB11 L n no 2) = 0 ∧ (tr = 0 ∨ (tr ≠ 0 ∧ (readN (inB11 L n no 2)).tree = tr)) ∧ X = 0 ∧ R = readN (inB11 L n no 2)) := by
    unfold nodN11 at hR
    rw [hX] at hR
    unfold nodE11 at hX
    by_cases h1 : inE11 L n no 2 = 0
    · rw [if_neg (fun h => h h1)] at hX
      by_cases h2 : readNE (inB11 L n no 2) = 0
      · rw [if_neg (fun h => h h2)] at hX
        by_cases h3 : tr ≠ 0 ∧ (readN (inB11 L n no 2)).tree ≠ tr
        · rw [if_pos h3] at hX
          rw [← hX, if_neg (by decide)] at hR
          exact .inr (.inr (.inl ⟨h1, h2, h3, hX.symm, hR.symm⟩))
        · rw [if_neg h3] at hX
          rw [← hX, if_pos rfl] at hR
          refine .inr (.inr (.inr ⟨h1, h2, ?_, hX.symm, hR.symm⟩))
          by_cases h4 : tr = 0
          · exact .inl h4
          · exact .inr ⟨h4, Classical.byContradiction fun h5 => h3 ⟨h4, h5⟩⟩
      · rw [if_pos h2] at hX
        rw [← hX, if_neg h2] at hR
        exact .inr (.inl ⟨h1, h2, hX.symm, hR.symm⟩)
    · rw [if_pos h1] at hX
      rw [← hX, if_neg h1] at hR
      exact .inl ⟨h1, hX.symm, hR.symm⟩
  clear hX hR h hL
  generalize inE11 L n no 2 = e0 at *
  generalize inB11 L n no 2 = b at *
  generalize readNE b = x at *
  generalize readN b = nd at *
  obtain ⟨tree, leaf, ks, vs⟩ := nd
  simp only [nodV] at RD
  rcases key with ⟨h1, g1, g2⟩ | ⟨rfl, h1, g1, g2⟩ | ⟨rfl, rfl, ⟨h1, h2⟩, g1, g2⟩ | ⟨rfl, rfl, h1, g1, g2⟩
  · have hne : (e0 != 0) = true := by simpa using h1
    have HE := Lib.hid (And.intro g1 g2)
    clear h1 g1 g2
    go_enter Tryz.func44, Tryz.ntmps44
    go_wp2_with (first
      | (go_at_call 74; (with_reducible refine (IN.out _ hN0).mono ?_); rintro e w1 ⟨A1, m1, c1, rfl, hB1, hN1⟩; clear hB1)
      | (go_at_call 23; (with_reducible refine (AT.out _ _ hN1).mono ?_); rintro e w3 ⟨A3, n3, c3, rfl, hI3, hn3, hN3⟩; have HI3 := Lib.hid hI3; have HN3 := Lib.hid hn3; clear hI3 hn3; obtain ⟨⟨⟨z0, z1, z2, z3⟩, y0, y1, y2, y3⟩, ⟨k0, k1⟩, l0, l1⟩ := hN3.facts))
    obtain ⟨d1, d2, d3, d4, d5⟩ := hN3.done 0 false (NodIn.zero w3) (Newer.nil _) (Newer.nil _) HI3.out HN3.out
    refine bodyPost_ret (blk_res2 Tryz.results44 _ _ (a := ⟨w.heap.size, 0, none⟩) (b := ⟨w.heap.size + 1, 0, none⟩) rfl rfl d1.load d2.load) rfl ?_
    exact ⟨_, none, 0, 0, none, 0, 0, by rw [HE.out.2]; rfl, by rw [HE.out.2]; exact d3, by rw [HE.out.1]; exact d4.toF (HN3.out.mono (by omega)), d5, Newer.nil _, Newer.nil _⟩
  · have hne : (x != 0) = true := by simpa using h1
    have HE := Lib.hid (And.intro g1 g2)
    clear h1 g1 g2
    go_enter Tryz.func44, Tryz.ntmps44
    go_wp2_with (first
      | (go_at_call 74; (with_reducible refine (IN.out _ hN0).mono ?_); rintro e w1 ⟨A1, m1, c1, rfl, hB1, hN1⟩; have HB1 := Lib.hid hB1; clear hB1)
      | (go_at_call 75; (with_reducible refine (RD.out _ _ _ _ hN1 HB1.out).mono ?_); rintro e w2 ⟨A5, n5, c5, A6, n6, c6, rfl, hI2, hN2, hn5, hn6⟩; have hN2' := hN2.later ((Below.refl w2.heap.size w2).alloc (Nat.le_refl _) (.cells #[.int .i64 tree, .bool leaf, .slice A5 n5 c5, .slice A6 n6 c6] 55)); clear hI2 hn5 hn6)
      | (go_at_call 23; (with_reducible refine (AT.out _ _ hN2').mono ?_); rintro e w3 ⟨A3, n3, c3, rfl, hI3, hn3, hN3⟩; have HI3 := Lib.hid hI3; have HN3 := Lib.hid hn3; clear hI3 hn3; obtain ⟨⟨⟨z0, z1, z2, z3⟩, y0, y1, y2, y3⟩, ⟨k0, k1⟩, l0, l1⟩ := hN3.facts))
    obtain ⟨d1, d2, d3, d4, d5⟩ := hN3.done 0 false (NodIn.zero w3) (Newer.nil _) (Newer.nil _) HI3.out HN3.out
    refine bodyPost_ret (blk_res2 Tryz.results44 _ _ (a := ⟨w.heap.size, 0, none⟩) (b := ⟨w.heap.size + 1, 0, none⟩) rfl rfl d1.load d2.load) rfl ?_
    exact ⟨_, none, 0, 0, none, 0, 0, by rw [HE.out.2]; rfl, by rw [HE.out.2]; exact d3, by rw [HE.out.1]; exact d4.toF (HN3.out.mono (by omega)), d5, Newer.nil _, Newer.nil _⟩
  · have hn1 : (tr != 0) = true := by simpa using h1
    have hn2 : (tree != tr) = true := by simpa using h2
    have HE := Lib.hid (And.intro g1 g2)
    clear h1 h2 g1 g2
    go_enter Tryz.func44, Tryz.ntmps44
    go_wp2_with (first
      | (go_at_call 74; (with_reducible refine (IN.out _ hN0).mono ?_); rintro e w1 ⟨A1, m1, c1, rfl, hB1, hN1⟩; have HB1 := Lib.hid hB1; clear hB1)
      | (go_at_call 75; (with_reducible refine (RD.out _ _ _ _ hN1 HB1.out).mono ?_); rintro e w2 ⟨A5, n5, c5, A6, n6, c6, rfl, hI2, hN2, hn5, hn6⟩; have hN2' := hN2.later ((Below.refl w2.heap.size w2).alloc (Nat.le_refl _) (.cells #[.int .i64 tree, .bool leaf, .slice A5 n5 c5, .slice A6 n6 c6] 55)); clear hI2 hn5 hn6)
      | (go_at_call 23; (with_reducible refine (AT.out _ _ hN2').mono ?_); rintro e w3 ⟨A3, n3, c3, rfl, hI3, hn3, hN3⟩; have HI3 := Lib.hid hI3; have HN3 := Lib.hid hn3; clear hI3 hn3; obtain ⟨⟨⟨z0, z1, z2, z3⟩, y0, y1, y2, y3⟩, ⟨k0, k1⟩, l0, l1⟩ := hN3.facts))
    obtain ⟨d1, d2, d3, d4, d5⟩ := hN3.done 0 false (NodIn.zero w3) (Newer.nil _) (Newer.nil _) HI3.out HN3.out
    refine bodyPost_ret (blk_res2 Tryz.results44 _ _ (a := ⟨w.heap.size, 0, none⟩) (b := ⟨w.heap.size + 1, 0, none⟩) rfl rfl d1.load d2.load) rfl ?_
    exact ⟨_, none, 0, 0, none, 0, 0, by rw [HE.out.2]; rfl, by rw [HE.out.2]; exact d3, by rw [HE.out.1]; exact d4.toF (HN3.out.mono (by omega)), d5, Newer.nil _, Newer.nil _⟩
  · have HE := Lib.hid (And.intro g1 g2)
    clear g1 g2
    rcases h1 with rfl | ⟨h1, rfl⟩
    all_goals try (have hn1 : (tree != 0) = true := by simpa using h1)
    all_goals try clear h1
    all_goals go_enter Tryz.func44, Tryz.ntmps44
    all_goals go_wp2_with (first
      | (go_at_call 74; (with_reducible refine (IN.out _ hN0).mono ?_); rintro e w1 ⟨A1, m1, c1, rfl, hB1, hN1⟩; have HB1 := Lib.hid hB1; clear hB1)
      | (go_at_call 75; (with_reducible refine (RD.out _ _ _ _ hN1 HB1.out).mono ?_); rintro e w2 ⟨A5, n5, c5, A6, n6, c6, rfl, hI2, hN2, hn5, hn6⟩; have HN5 := Lib.hid hn5; have HN6 := Lib.hid hn6; have HI2 := Lib.hid (hI2.below ((Below.refl w2.heap.size w2).alloc (Nat.le_refl _) (.cells #[.int .i64 tree, .bool leaf, .slice A5 n5 c5, .slice A6 n6 c6] 55))); have hN3 := hN2.later ((Below.refl w2.heap.size w2).alloc (Nat.le_refl _) (.cells #[.int .i64 tree, .bool leaf, .slice A5 n5 c5, .slice A6 n6 c6] 55)); clear hI2 hn5 hn6; obtain ⟨⟨⟨z0, z1, z2, z3⟩, y0, y1, y2, y3⟩, ⟨k0, k1⟩, l0, l1⟩ := hN3.facts))
    all_goals obtain ⟨d1, d2, d3, d4, d5⟩ := hN3.done tree leaf HI2.out HN5.out HN6.out (no := no) (x := 0) (Ints.nil _) (Newer.nil _)
    all_goals refine bodyPost_ret (blk_res2 Tryz.results44 _ _ (a := ⟨w.heap.size, 0, none⟩) (b := ⟨w.heap.size + 1, 0, none⟩) rfl rfl d1.load d2.load) rfl ?_
    all_goals exact ⟨_, A5, n5, c5, A6, n6, c6, by rw [HE.out.2]; rfl, by rw [HE.out.2]; exact d3, by rw [HE.out.1]; exact d4.toF (Newer.nil _), d5, HN5.out.mono (by omega), HN6.out.mono (by omega)⟩

end Go.Proofs.YtfcehhhcjlpklaaGreatDoor

/-
  Layer 11: Write, the program's and the reference's.
-/
namespace Go.Proofs.YtfcehhhcjlpklaaGreatDoor
open Go.RowKit
set_option linter.unusedVariables false
set_option linter.unusedSimpArgs false

theorem grown_below {w w' : World} (hb : Below w.heap.size w w') (r : Option Nat) : w.grownBy w' r := ⟨hb.os, hb.tape, hb.output, hb.size, fun k hk _ => hb.block k hk⟩
theorem grown_kept {w w' : World} {g : Nat} (hk : Kept g w w') : w.grownBy w' (some g) := ⟨hk.os, hk.tape, hk.output, by rw [hk.size]; exact Nat.le_refl _, fun k _ hne => hk.block k (fun e => hne (by rw [e]))⟩
theorem grown_trans {a b c : World} {r : Option Nat} (h : a.grownBy b r) (k : b.grownBy c r) : a.grownBy c r :=
  ⟨k.os.trans h.os, k.tape.trans h.tape, k.output.trans h.output, Nat.le_trans h.size k.size, fun i hi hne => (k.block i (Nat.lt_of_lt_of_le hi h.size) hne).trans (h.block i hi hne)⟩
theorem below_grown {w w' : World} {B g : Nat} (h : w.grownBy w' (some g)) (hB : B ≤ g) (hs : B ≤ w.heap.size) : Below B w w' :=
  ⟨h.os, h.tape, h.output, h.size, fun k hk => h.block k (by omega) (fun e => by injection e; omega)⟩

theorem wrE11_seal {n : Nat} {no kind : Int} {l : List UInt8} (h : sealE kind no l.length ≠ 0) : wrE11 n no kind l = sealE kind no l.length := by rw [wrE11, if_pos h]
theorem wrE11_ok {n : Nat} {no kind : Int} {l : List UInt8} (h : sealE kind no l.length = 0) : wrE11 n no kind l = if outB n no = true then 3 else 0 := by rw [wrE11, if_neg (fun e => e h)]
theorem wrL11_bad {L : List UInt8} {n : Nat} {no kind : Int} {l : List UInt8} (h : wrE11 n no kind l ≠ 0) : wrL11 L n no kind l = L := by rw [wrL11, if_neg h]
theorem wrL11_good {L : List UInt8} {n : Nat} {no kind : Int} {l : List UInt8} (h : wrE11 n no kind l = 0) : wrL11 L n no kind l = splice L (no.toNat * 256) (sealB kind no l) := by rw [wrL11, if_pos h]

/-- a sealed block, written by image's Write -/
theorem imgWrite_any {w : World} {B p g n : Nat} {L l : List UInt8} (no : Int) (A : Option Addr) (c : Nat) (h : Img w B p g L) (hL : L.length = n * 256) (hl : Bytes8 w A 256 c l) :
    Calls Tryz.prog 35 #[.pointer (some ⟨p, 0, none⟩), .int .i64 no, .slice A 256 c] w fun e w' => e = .returned (.int .i64 (if outB n no = true then 3 else 0)) ∧ Img w' B p g (if outB n no = true then L else splice L (no.toNat * 256) l) ∧ w.grownBy w' (some g) := by
  cases ho : outB n no with
  | true =>
    refine (Write_bad p no n A 256 c w (Blocks_img w h hL) (outB_iff.1 ho)).mono ?_
    rintro e w' ⟨rfl, rfl⟩
    exact ⟨rfl, by simpa using h, grown_below (Below.refl _ _) _⟩
  | false =>
    obtain ⟨h0, h1⟩ := outB_not.1 ho
    obtain ⟨k, rfl⟩ := Int.eq_ofNat_of_zero_le h0
    refine (Write_img k A c w h hL (by omega) hl).mono ?_
    rintro e w' ⟨rfl, hk, hi⟩
    exact ⟨rfl, by simpa using hi, grown_kept hk⟩

set_option maxRecDepth 100000 in
set_option maxHeartbeats 1600000 in
theorem blockWrite_bad {w : World} (pv : Value) (no kind : Int) {A : Option Addr} {m c : Nat} {l : List UInt8} (hB : Bytes8 w A m c l) (hs : sealE kind no l.length ≠ 0) :
    Calls Tryz.prog 16 #[pv, .int .i64 no, .int .i64 kind, .slice A m c] w fun e w' => ∃ v, e = .returned v ∧ ErrAt w' v no (sealE kind no l.length) ∧ Below w.heap.size w w' := by
  have S := Lib.hid (Seal_any kind no A m c l w hB)
  have AT := Lib.hid (fun x W => bat_any no x W)
  rw [hB.len] at hs ⊢
  have hne : (sealE kind no m == 0) = false := by simpa using hs
  clear hB
  generalize sealE kind no m = x at *
  generalize sealB kind no l = bb at *
  go_enter Tryz.func16, Tryz.ntmps16
  go_wp2_with (first
    | (go_at_call 34; (with_reducible refine (S.out).mono ?_); rintro e w1 ⟨A1, m1, c1, rfl, hB1, hb1⟩; clear hB1)
    | (go_at_call 36; (with_reducible refine (AT.out _ _).mono ?_); rintro e w4 ⟨v, rfl, hv, hb4⟩; have HV := Lib.hid hv; clear hv))
  go_ret
  exact ⟨v, rfl, HV.out, hb1.trans (hb4.mono hb1.size)⟩

/-! what image's Write may do: the error, and what it leaves, which bears what is laid behind -/
set_option maxRecDepth 100000 in
set_option maxHeartbeats 1600000 in
theorem blockWrite_of {w : World} (pv : Value) (no kind y : Int) {A : Option Addr} {m c : Nat} {l : List UInt8} (hB : Bytes8 w A m c l) (hs : sealE kind no l.length = 0) (r : Option Nat) (Q : World → Prop) (hQ : ∀ W W', Below W.heap.size W W' → Q W → Q W')
    (WR : ∀ W A c, Below w.heap.size w W → Bytes8 W A 256 c (sealB kind no l) → Calls Tryz.prog 35 #[pv, .int .i64 no, .slice A 256 c] W fun e w' => e = .returned (.int .i64 y) ∧ Q w' ∧ W.grownBy w' r) :
    Calls Tryz.prog 16 #[pv, .int .i64 no, .int .i64 kind, .slice A m c] w fun e w' => ∃ v, e = .returned v ∧ ErrAt w' v no y ∧ Q w' ∧ w.grownBy w' r := by
  have S : Hid (Calls Tryz.prog 34 #[.int .i64 kind, .int .i64 no, .slice A m c] w fun e w' => ∃ g, e = .returned (.tuple #[.slice (some ⟨g, 0, none⟩) 256 256, .int .i64 0]) ∧ Bytes8 w' (some ⟨g, 0, none⟩) 256 256 (sealB kind no l) ∧ Below w.heap.size w w') :=
    (Seal_good kind no A m c l w hB (by rw [← hB.len]; exact hs)).mono fun e w' ⟨g, h1, h2, h3⟩ => ⟨g, h1, h2.bytes (n := 256) (sealB_length hs) (by omega), h3⟩
  have W2 := Lib.hid WR
  have HQ := Lib.hid hQ
  have AT := Lib.hid (fun x W => bat_any no x W)
  clear hB hs WR hQ
  generalize sealB kind no l = bb at *
  go_enter Tryz.func16, Tryz.ntmps16
  go_wp2_with (first
    | (go_at_call 34; (with_reducible refine (S.out).mono ?_); rintro e w1 ⟨g1, rfl, hB1, hb1⟩; have HB1 := Lib.hid hB1; clear hB1)
    | (go_at_call 35; (with_reducible refine (W2.out _ _ _ hb1 HB1.out).mono ?_); rintro e w2 ⟨rfl, hq, hg⟩; have HQ2 := Lib.hid hq; have HG := Lib.hid hg; clear hq hg)
    | (go_at_call 36; (with_reducible refine (AT.out _ _).mono ?_); rintro e w4 ⟨v, rfl, hv, hb4⟩; have HV := Lib.hid hv; clear hv))
  go_ret
  exact ⟨v, rfl, HV.out, HQ.out _ _ hb4 HQ2.out, grown_trans (grown_trans (grown_below hb1 _) HG.out) (grown_below hb4 _)⟩

/-- of an image -/
theorem blockWrite_any {w : World} {B p g n : Nat} {L : List UInt8} (no kind : Int) (h : Img w B p g L) (hL : L.length = n * 256) {A : Option Addr} {m c : Nat} {l : List UInt8} (hB : Bytes8 w A m c l) :
    Calls Tryz.prog 16 #[.pointer (some ⟨p, 0, none⟩), .int .i64 no, .int .i64 kind, .slice A m c] w fun e w' => ∃ v, e = .returned v ∧ ErrAt w' v no (wrE11 n no kind l) ∧ Img w' B p g (wrL11 L n no kind l) ∧ w.grownBy w' (some g) := by
  by_cases hs : sealE kind no l.length = 0
  · have := blockWrite_of (.pointer (some ⟨p, 0, none⟩)) no kind (if outB n no = true then 3 else 0) hB hs (some g) (fun W => Img W B p g (if outB n no = true then L else splice L (no.toNat * 256) (sealB kind no l))) (fun W W' hb hi => hi.later hb) (fun W A c hW hb => imgWrite_any no A c (h.later hW) hL hb)
    rw [wrE11_ok hs]
    cases ho : outB n no with
    | true =>
      rw [wrL11_bad (by rw [wrE11_ok hs, ho]; decide)]
      simp only [ho] at this
      exact this
    | false =>
      rw [wrL11_good (by rw [wrE11_ok hs, ho]; rfl)]
      simp only [ho] at this
      exact this
  · rw [wrL11_bad (by rw [wrE11_seal hs]; exact hs), wrE11_seal hs]
    exact (blockWrite_bad _ no kind hB hs).mono fun e w' ⟨v, h1, h2, h3⟩ => ⟨v, h1, h2, h.later h3, grown_below h3 _⟩
/-! ### the reference's -/
/-- an error's variable; all stands as it stood but block g -/
structure BxG (w W : World) (g : Nat) : Prop where
  flt : FltAt W w.heap.size (.slice none 0 0) (.int .i64 0)
  gr : w.grownBy W (some g)
theorem BxG.later {w W W' : World} {g : Nat} (h : BxG w W g) (hb : Below W.heap.size W W') : BxG w W' g := ⟨h.flt.later hb, grown_trans h.gr (grown_below hb _)⟩
theorem BxG.start (w : World) (g : Nat) : BxG w (w.alloc (.cells #[.slice none 0 0, .int .i64 0] 45)) g := ⟨FltAt.new w _ _, grown_below ((Below.refl _ _).alloc (Nat.le_refl _) _) _⟩
theorem RImg.grown {w w' : World} {B p g : Nat} {v : Value} {L : List (List UInt8)} (h : RImg w B p v L) (hk : w.grownBy w' (some g)) (hg : g < p) : RImg w' B p v L := by
  refine ⟨h.bp, (hk.block p h.plt (fun e => by injection e; omega)).trans h.hp, h.own.1, ?_⟩
  rcases h.own.2 with hn | ⟨g2, cap, cur, hv, hg2, hh, rest⟩
  · exact .inl hn
  · exact .inr ⟨g2, cap, cur, hv, hg2, (hk.block g2 (block_lt hh) (fun e => by injection e; omega)).trans hh, rest⟩
theorem RImg.box {w : World} {B p : Nat} {v : Value} {L : List (List UInt8)} (h : RImg w B p v L) {q : Nat} {a b : Value} (hf : FltAt w q a b) (c d : Value) : RImg ((w.setCell ⟨q, 0, none⟩ c).setCell ⟨q, 1, none⟩ d) B p v L := by
  have hp : p ≠ q := fun e => by
    have := h.hp
    rw [e, show w.heap[q]? = _ from hf] at this
    injection this with this
    injection this with _ e2 _
    exact absurd e2 (by decide)
  refine ⟨h.bp, two_other h.hp hp _ _, h.own.1, ?_⟩
  rcases h.own.2 with hn | ⟨g2, cap, cur, hv, hg2, hh, rest⟩
  · exact .inl hn
  · have hne : g2 ≠ q := fun e => by
      rw [e, show w.heap[q]? = _ from hf] at hh
      injection hh with hh
      injection hh with _ e2 _
      exact absurd e2 (by decide)
    exact .inr ⟨g2, cap, cur, hv, hg2, two_other hh hne _ _, rest⟩

end Go.Proofs.YtfcehhhcjlpklaaGreatDoor

/-
  Layer 14, the reference: wrap.
-/
namespace Go.Proofs.YtfcehhhcjlpklaaGreatDoor
open Go.RowKit Go.Shelf
set_option linter.unusedVariables false
set_option linter.unusedSimpArgs false

/-- the error as it is wrapped: its variable, and the result's -/
structure Wp14 (w W : World) (A : Option Addr) (n c : Nat) (code : Int) (bs : List Int) : Prop where
  bel : Below w.heap.size w W
  box : FltAt W w.heap.size (.slice A n c) (.int .i64 code)
  res : FltAt W (w.heap.size + 1) (.slice none 0 0) (.int .i64 0)
  val : Ints W A n c bs
  far : ∀ ad, A = some ad → ad.block < w.heap.size ∨ w.heap.size + 2 ≤ ad.block
theorem Wp14.step {w W W' : World} {A A' : Option Addr} {n c n' c' : Nat} {code : Int} {bs bs' : List Int} (h : Wp14 w W A n c code bs) (hb : Below W.heap.size W W') (hI : Ints W' A' n' c' bs') (hN : Newer (W.heap.size + 2) A') :
    Wp14 w ((W'.setCell ⟨w.heap.size, 0, none⟩ (.slice A' n' c')).setCell ⟨w.heap.size, 1, none⟩ (.int .i64 code)) A' n' c' code bs' := by
  have h1 := block_lt h.res
  have h2 := h.bel.size
  have hN2 : Newer (w.heap.size + 2) A' := hN.mono (by omega)
  refine ⟨below_store2 (h.bel.trans (hb.mono h2)) (Nat.le_refl _) _ _, (h.box.later hb).store _ _, ?_, hI.newer hN2 (two_keep W' w.heap.size _ _ (by omega)), fun ad e => .inr (hN2 ad e)⟩
  exact (two_keep W' w.heap.size _ _ (Nat.lt_succ_self _) (w.heap.size + 1) (Nat.le_refl _)).trans (h.res.later hb)

set_option maxRecDepth 100000 in
set_option maxHeartbeats 1600000 in
theorem refWrap_any14 {A A2 : Option Addr} {n c n2 c2 : Nat} {way bs : List Int} {code : Int} (hc : code ≠ 0) (w : World) (hW : Ints w A n c way) (hI : Ints w A2 n2 c2 bs) (hlt : ∀ ad, A2 = some ad → ad.block < w.heap.size) (hn : n + n2 ≤ 300) :
    Calls Tryz.prog 22 #[.slice A n c, .agg #[.slice A2 n2 c2, .int .i64 code]] w fun e w' => ∃ A3 c3, e = .returned (.agg #[.slice A3 (n + n2) c3, .int .i64 code]) ∧ Ints w' A3 (n + n2) c3 (way ++ bs) ∧ Below w.heap.size w w' ∧ (A3 = A2 ∨ Newer (w.heap.size + 2) A3) := by
  have hle := hW.le
  have hl := hW.len
  have h1 : Below w.heap.size w (w.alloc (.cells #[.slice A2 n2 c2, .int .i64 code] 45)) := (Below.refl _ _).alloc (Nat.le_refl _) _
  have h2 : Below (w.heap.size + 1) (w.alloc (.cells #[.slice A2 n2 c2, .int .i64 code] 45)) ((w.alloc (.cells #[.slice A2 n2 c2, .int .i64 code] 45)).alloc (.cells #[.slice none 0 0, .int .i64 0] 45)) := (Below.refl _ _).alloc (by simp) _
  have hS : Wp14 w ((w.alloc (.cells #[.slice A2 n2 c2, .int .i64 code] 45)).alloc (.cells #[.slice none 0 0, .int .i64 0] 45)) A2 n2 c2 code bs := by
    refine ⟨h1.trans (h2.mono (by omega)), ?_, ?_, hI.below (h1.trans (h2.mono (by omega))), fun ad e => .inl (hlt ad e)⟩
    · exact (h2.block _ (by omega)).trans (FltAt.new w _ _)
    · have := FltAt.new (w.alloc (.cells #[.slice A2 n2 c2, .int .i64 code] 45)) (.slice none 0 0) (.int .i64 0)
      simpa using this
  have HS := Lib.hid hS
  have HW := Lib.hid hW
  clear h1 h2 hS hI hW
  go_enter Tryz.func22, Tryz.ntmps22
  go_wp2
  go_loopw [5] (fun i wr => ∃ (k m c' : Nat) (A' : Option Addr), k ≤ n ∧ m + k = n + n2 ∧ i = .int .i64 ((k : Int) - 1) ∧ Hid (Wp14 w wr A' m c' code (way.drop k ++ bs)) ∧ (A' = A2 ∨ Newer (w.heap.size + 2) A')) (fun i _ => (intOf i + 1).toNat)
  case atStart => exact ⟨n, n2, c2, A2, by omega, by omega, by simp, by rw [List.drop_of_length_le (by omega)]; exact HS, .inl rfl⟩
  case round =>
    obtain ⟨k, m, c', A', hk, hm, rfl, HP, hor⟩ := hrel
    obtain ⟨⟨z0, z1⟩, y0, y1⟩ := HP.out.box.cs
    cases k with
    | zero =>
      have hz : (((0 : Nat) : Int) - 1) = -1 := by omega
      rw [hz]
      obtain rfl : m = n + n2 := by omega
      obtain ⟨⟨x0, x1⟩, v0, v1⟩ := HP.out.res.cs
      go_wp2
      refine bodyPost_ret (results_rf Tryz.results22 _ _ (w.heap.size + 1) (.slice A' (n + n2) c') (.int .i64 code) rfl (HP.out.res.store _ _)) rfl ?_
      have hI := HP.out.val
      rw [List.drop_zero] at hI
      refine ⟨A', c', rfl, ⟨hI.len, hI.cap, hI.most, hI.row.kept (g := w.heap.size + 1) (fun ad e => by have := HP.out.far ad e; omega) (fun k hk hne => ?_)⟩, below_store2 HP.out.bel (by omega) _ _, hor⟩
      rw [heap_setCell_other _ _ k _ hne, heap_setCell_other _ _ k _ hne]
    | succ k =>
      have hkI : ((k + 1 : Nat) : Int) - 1 = (k : Int) := by omega
      rw [hkI]
      have hkl : k < way.length := by omega
      obtain ⟨b, off, rfl, hb, hc5⟩ := HW.out.row.lit (by rw [i64s_length]; omega)
      have hck := (HP.out.bel.cell (p := ⟨b, off + k, none⟩) hb).trans (hc5 k _ (i64s_at way k hkl))
      have AT : Hid (∀ W, Below wr.heap.size wr W → Calls Tryz.prog 42 #[.int .i64 way[k], .agg #[.slice A' m c', .int .i64 code]] W fun e w' => ∃ A3 c3, e = .returned (.agg #[.slice A3 (m + 1) c3, .int .i64 code]) ∧ Hid (Wp14 w ((w'.setCell ⟨w.heap.size, 0, none⟩ (.slice A3 (m + 1) c3)).setCell ⟨w.heap.size, 1, none⟩ (.int .i64 code)) A3 (m + 1) c3 code (way.drop k ++ bs)) ∧ Newer (w.heap.size + 2) A3 ∧ FltAt w' w.heap.size (.slice A' m c') (.int .i64 code)) := fun W hW => by
        refine (refAt_newer way[k] hc W (HP.out.val.below hW) (by omega)).mono ?_
        rintro e w' ⟨A3, c3, h1, h2, h3, h4⟩
        have hsz := HP.out.bel.size
        have hsz2 := hW.size
        have h5 := hW.trans (h3.mono hsz2)
        refine ⟨A3, c3, h1, ?_, h4.mono (by omega), HP.out.box.later h5⟩
        have := HP.out.step h5 h2 (h4.mono (by omega))
        rw [List.drop_eq_getElem_cons hkl]
        exact this
      generalize way[k] = x at *
      clear hc5
      go_wp2
      go_region_with (go_at_call 42; (with_reducible refine (AT.out _ (by first | exact Below.refl _ _ | exact (Below.refl _ _).drew | exact below_drewN (Below.refl _ _) _)).mono ?_); rintro e w6 ⟨A3, c3, rfl, hP3, hN3, hB3⟩; obtain ⟨⟨x0, x1⟩, v0, v1⟩ := hB3.cs; clear hB3)
      all_goals go_wp2
      all_goals go_roundw
      all_goals first
        | exact ⟨k, m + 1, c3, A3, by omega, by omega, rfl, hP3, .inr hN3⟩
        | (simp only [intOf]; omega)

end Go.Proofs.YtfcehhhcjlpklaaGreatDoor

/-
  Layer 14, the reference: look.
-/
namespace Go.Proofs.YtfcehhhcjlpklaaGreatDoor
open Go.RowKit Go.Shelf
set_option linter.unusedVariables false
set_option linter.unusedSimpArgs false

/-- a visit as a value, and in memory -/
def visV14 (no lo hi : Int) (wy : Value) (ft : Int) : Value := .agg #[.int .i64 no, .int .i64 lo, .int .i64 hi, wy, .int .i64 ft]
def VisAt (w : World) (b : Nat) (no lo hi : Int) (wy : Value) (ft : Int) : Prop := w.heap[b]? = some (.cells #[.int .i64 no, .int .i64 lo, .int .i64 hi, wy, .int .i64 ft] 70 (0, 0))
def VisC5 (w : World) (b : Nat) (no lo hi : Int) (wy : Value) (ft : Int) : Prop := w.cell? ⟨b, 0, none⟩ = some (.int .i64 no) ∧ w.cell? ⟨b, 1, none⟩ = some (.int .i64 lo) ∧ w.cell? ⟨b, 2, none⟩ = some (.int .i64 hi) ∧ w.cell? ⟨b, 3, none⟩ = some wy ∧ w.cell? ⟨b, 4, none⟩ = some (.int .i64 ft)
section
variable {w w' : World} {b : Nat} {no lo hi ft : Int} {wy : Value}
theorem VisAt.later (h : VisAt w b no lo hi wy ft) (hb : Below w.heap.size w w') : VisAt w' b no lo hi wy ft := (hb.block _ (block_lt h)).trans h
theorem VisAt.cs (h : VisAt w b no lo hi wy ft) : VisC5 w b no lo hi wy ft :=
  ⟨by rw [cell_of_row w b 0 _ _ _ h]; rfl, by rw [cell_of_row w b 1 _ _ _ h]; rfl, by rw [cell_of_row w b 2 _ _ _ h]; rfl, by rw [cell_of_row w b 3 _ _ _ h]; rfl, by rw [cell_of_row w b 4 _ _ _ h]; rfl⟩
end

/-- look's variables: the visit, the node and the error that are handed back -/
structure LkS (w W : World) (no lo hi : Int) (wy : Value) (ft : Int) : Prop where
  bel : Below w.heap.size w W
  box : VisAt W w.heap.size no lo hi wy ft
  res : NodAt W (w.heap.size + 1) 0 false (.slice none 0 0) (.slice none 0 0)
  flt : FltAt W (w.heap.size + 2) (.slice none 0 0) (.int .i64 0)
section
variable {w W W' : World} {no lo hi ft : Int} {wy : Value}
theorem LkS.later (h : LkS w W no lo hi wy ft) (hb : Below W.heap.size W W') : LkS w W' no lo hi wy ft := ⟨h.bel.trans (hb.mono h.bel.size), h.box.later hb, h.res.later hb, h.flt.later hb⟩
theorem LkS.low (h : LkS w W no lo hi wy ft) : w.heap.size + 3 ≤ W.heap.size := by have := block_lt h.flt; omega
theorem LkS.facts (h : LkS w W no lo hi wy ft) : VisC5 W w.heap.size no lo hi wy ft ∧ NodC4 W (w.heap.size + 1) 0 false (.slice none 0 0) (.slice none 0 0) ∧ FltC2 W (w.heap.size + 2) (.slice none 0 0) (.int .i64 0) := ⟨h.box.cs, h.res.cs, h.flt.cs⟩
theorem LkS.start (w : World) (no lo hi : Int) (wy : Value) (ft : Int) : LkS w (((w.alloc (.cells #[.int .i64 no, .int .i64 lo, .int .i64 hi, wy, .int .i64 ft] 70)).alloc (.cells #[.int .i64 0, .bool false, .slice none 0 0, .slice none 0 0] 55)).alloc (.cells #[.slice none 0 0, .int .i64 0] 45)) no lo hi wy ft := by
  have h0 : Below w.heap.size w (w.alloc (.cells #[.int .i64 no, .int .i64 lo, .int .i64 hi, wy, .int .i64 ft] 70)) := (Below.refl _ _).alloc (Nat.le_refl _) _
  obtain ⟨h1, h2, h3⟩ := two_new (w.alloc (.cells #[.int .i64 no, .int .i64 lo, .int .i64 hi, wy, .int .i64 ft] 70)) (.cells #[.int .i64 0, .bool false, .slice none 0 0, .slice none 0 0] 55) (.cells #[.slice none 0 0, .int .i64 0] 45)
  rw [World.size_alloc] at h1 h2 h3
  exact ⟨h0.trans (h3.mono (by omega)), (h3.block _ (by omega)).trans (heap_alloc_new w _), h1, h2⟩

/-- behind the stores of what is handed back -/
theorem LkS.done (hs : LkS w W no lo hi wy ft) (tree : Int) (leaf : Bool) {A5 : Option Addr} {n5 c5 : Nat} {A6 : Option Addr} {n6 c6 : Nat} {ks : List Int} {vs : List (List UInt8)} (hN : NodIn W ⟨tree, leaf, ks, vs⟩ A5 n5 c5 A6 n6 c6) (h5 : Newer (w.heap.size + 3) A5) (h6 : Newer (w.heap.size + 3) A6) {A : Option Addr} {n c : Nat} {x : Int} {l : List Int} (hI : Ints W A n c l) (hn : Newer (w.heap.size + 3) A) {W9 : World}
    (hW : W9 = ((((((W.setCell ⟨w.heap.size + 1, 0, none⟩ (.int .i64 tree)).setCell ⟨w.heap.size + 1, 1, none⟩ (.bool leaf)).setCell ⟨w.heap.size + 1, 2, none⟩ (.slice A5 n5 c5)).setCell ⟨w.heap.size + 1, 3, none⟩ (.slice A6 n6 c6)).setCell ⟨w.heap.size + 2, 0, none⟩ (.slice A n c)).setCell ⟨w.heap.size + 2, 1, none⟩ (.int .i64 x)) ∨
      W9 = ((((((W.setCell ⟨w.heap.size + 2, 0, none⟩ (.slice A n c)).setCell ⟨w.heap.size + 2, 1, none⟩ (.int .i64 x)).setCell ⟨w.heap.size + 1, 0, none⟩ (.int .i64 tree)).setCell ⟨w.heap.size + 1, 1, none⟩ (.bool leaf)).setCell ⟨w.heap.size + 1, 2, none⟩ (.slice A5 n5 c5)).setCell ⟨w.heap.size + 1, 3, none⟩ (.slice A6 n6 c6))) :
    NodAt W9 (w.heap.size + 1) tree leaf (.slice A5 n5 c5) (.slice A6 n6 c6) ∧ FltAt W9 (w.heap.size + 2) (.slice A n c) (.int .i64 x) ∧ NodIn W9 ⟨tree, leaf, ks, vs⟩ A5 n5 c5 A6 n6 c6 ∧ Ints W9 A n c l ∧ Below w.heap.size w W9 := by
  rcases hW with rfl | rfl
  · have h1 := hs.res.store tree leaf (.slice A5 n5 c5) (.slice A6 n6 c6)
    have h2 : FltAt ((((W.setCell ⟨w.heap.size + 1, 0, none⟩ (.int .i64 tree)).setCell ⟨w.heap.size + 1, 1, none⟩ (.bool leaf)).setCell ⟨w.heap.size + 1, 2, none⟩ (.slice A5 n5 c5)).setCell ⟨w.heap.size + 1, 3, none⟩ (.slice A6 n6 c6)) (w.heap.size + 2) (.slice none 0 0) (.int .i64 0) := four_other hs.flt (by omega) _ _ _ _
    have hk : ∀ k, w.heap.size + 3 ≤ k → ((((((W.setCell ⟨w.heap.size + 1, 0, none⟩ (.int .i64 tree)).setCell ⟨w.heap.size + 1, 1, none⟩ (.bool leaf)).setCell ⟨w.heap.size + 1, 2, none⟩ (.slice A5 n5 c5)).setCell ⟨w.heap.size + 1, 3, none⟩ (.slice A6 n6 c6)).setCell ⟨w.heap.size + 2, 0, none⟩ (.slice A n c)).setCell ⟨w.heap.size + 2, 1, none⟩ (.int .i64 x)).heap[k]? = W.heap[k]? := fun k hk => by
      rw [two_keep _ (w.heap.size + 2) _ _ (B := w.heap.size + 3) (by omega) k hk, four_keep _ (w.heap.size + 1) _ _ _ _ (B := w.heap.size + 2) (by omega) k (by omega)]
    exact ⟨two_other h1 (by omega) _ _, h2.store _ _, hN.newer h5 h6 hk, hI.newer hn hk, below_store2 (below_store7 hs.bel (by omega) _ _ _ _) (by omega) _ _⟩
  · have h1 := hs.flt.store (.slice A n c) (.int .i64 x)
    have h2 : NodAt ((W.setCell ⟨w.heap.size + 2, 0, none⟩ (.slice A n c)).setCell ⟨w.heap.size + 2, 1, none⟩ (.int .i64 x)) (w.heap.size + 1) 0 false (.slice none 0 0) (.slice none 0 0) := two_other hs.res (by omega) _ _
    have hk : ∀ k, w.heap.size + 3 ≤ k → ((((((W.setCell ⟨w.heap.size + 2, 0, none⟩ (.slice A n c)).setCell ⟨w.heap.size + 2, 1, none⟩ (.int .i64 x)).setCell ⟨w.heap.size + 1, 0, none⟩ (.int .i64 tree)).setCell ⟨w.heap.size + 1, 1, none⟩ (.bool leaf)).setCell ⟨w.heap.size + 1, 2, none⟩ (.slice A5 n5 c5)).setCell ⟨w.heap.size + 1, 3, none⟩ (.slice A6 n6 c6)).heap[k]? = W.heap[k]? := fun k hk => by
      rw [four_keep _ (w.heap.size + 1) _ _ _ _ (B := w.heap.size + 2) (by omega) k (by omega), two_keep _ (w.heap.size + 2) _ _ (B := w.heap.size + 3) (by omega) k hk]
    exact ⟨h2.store _ _ _ _, four_other h1 (by omega) _ _ _ _, hN.newer h5 h6 hk, hI.newer hn hk, below_store7 (below_store2 hs.bel (by omega) _ _) (by omega) _ _ _ _⟩
theorem LkS.doneD {W9 : World} {tree x : Int} {leaf : Bool} {nd : Nod} {A5 : Option Addr} {n5 c5 : Nat} {A6 : Option Addr} {n6 c6 : Nat} {A : Option Addr} {n c : Nat} {l : List Int} {B : Nat}
    (h : NodAt W9 (w.heap.size + 1) tree leaf (.slice A5 n5 c5) (.slice A6 n6 c6) ∧ FltAt W9 (w.heap.size + 2) (.slice A n c) (.int .i64 x) ∧ NodIn W9 nd A5 n5 c5 A6 n6 c6 ∧ Ints W9 A n c l ∧ Below B w W9) :
    NodAt W9.drew (w.heap.size + 1) tree leaf (.slice A5 n5 c5) (.slice A6 n6 c6) ∧ FltAt W9.drew (w.heap.size + 2) (.slice A n c) (.int .i64 x) ∧ NodIn W9.drew nd A5 n5 c5 A6 n6 c6 ∧ Ints W9.drew A n c l ∧ Below B w W9.drew := by
  have hd : Below W9.heap.size W9 W9.drew := (Below.refl _ _).drew
  exact ⟨h.1.later hd, h.2.1.later hd, h.2.2.1.below hd, h.2.2.2.1.below hd, h.2.2.2.2.drew⟩
end

/-- what look hands back -/
def LkRet (w : World) (e : Ending) (w' : World) (no x : Int) (nd : Nod) : Prop := ∃ N A5 n5 c5 A6 n6 c6 A n c, e = .returned (.tuple #[nodV N A5 n5 c5 A6 n6 c6, .agg #[.slice A n c, .int .i64 x]]) ∧ NodIn w' N A5 n5 c5 A6 n6 c6 ∧ Ints w' A n c (atL no x) ∧ Below w.heap.size w w' ∧ (Newer w.heap.size A5 ∧ Newer w.heap.size A6 ∧ Newer w.heap.size A) ∧ (x = 0 → N = nd)

set_option maxRecDepth 100000 in
set_option maxHeartbeats 3200000 in
theorem look_loop14 {Aw : Option Addr} {nw cw : Nat} {way : List Int} (pv : Value) (no lo hi ft tree deep : Int) (nd : Nod) (w : World) (hW : Ints w Aw nw cw way) (hin : no ∈ way) :
    Calls Tryz.prog 24 #[pv, visV14 no lo hi (.slice Aw nw cw) ft, .int .i64 tree, .int .i64 deep] w fun e w' => LkRet w e w' no 11 nd := by
  have hS0 := LkS.start w no lo hi (.slice Aw nw cw) ft
  have HS : Hid (∀ W, LkS w W no lo hi (.slice Aw nw cw) ft → Calls Tryz.prog 43 #[.slice Aw nw cw, .int .i64 no] W fun e w' => e = .returned (.bool true) ∧ W = w') := fun W h => by
    have := refHas_any14 no W (hW.below h.bel)
    rw [decide_eq_true hin] at this
    exact this
  have AT : Hid (∀ W, LkS w W no lo hi (.slice Aw nw cw) ft → Calls Tryz.prog 23 #[.int .i64 no, .int .i64 11] W fun e w' => ∃ A n c, e = .returned (.agg #[.slice A n c, .int .i64 11]) ∧ Hid (Ints w' A n c (atL no 11)) ∧ Hid (Newer (w.heap.size + 3) A) ∧ LkS w w' no lo hi (.slice Aw nw cw) ft) := fun W hW => (ref11At_any no 11 W).mono fun e w' ⟨A, n, c, h1, h2, h3, h4⟩ => ⟨A, n, c, h1, h2, h3.mono hW.low, hW.later h4⟩
  have hle := hW.le
  have hcap := hW.cap
  have hmost := hW.most
  clear hW hin
  obtain ⟨⟨b0, b1, b2, b3, b4⟩, ⟨⟨z0, z1, z2, z3⟩, y0, y1, y2, y3⟩, ⟨k0, k1⟩, l0, l1⟩ := hS0.facts
  simp only [visV14]
  go_enter Tryz.func24, Tryz.ntmps24
  go_wp2_with (first
    | (go_at_call 43; (with_reducible refine (HS.out _ hS0).mono ?_); rintro e w1 ⟨rfl, rfl⟩)
    | (go_at_call 23; (with_reducible refine (AT.out _ hS0).mono ?_); rintro e w3 ⟨A3, n3, c3, rfl, HI3, HN3, hS3⟩; clear b0 b1 b2 b3 b4 z0 z1 z2 z3 y0 y1 y2 y3 k0 k1 l0 l1; obtain ⟨⟨b0, b1, b2, b3, b4⟩, ⟨⟨z0, z1, z2, z3⟩, y0, y1, y2, y3⟩, ⟨k0, k1⟩, l0, l1⟩ := hS3.facts))
  obtain ⟨d1, d2, d3, d4, d5⟩ := hS3.done 0 false (NodIn.zero w3) (Newer.nil _) (Newer.nil _) (x := 11) HI3.out HN3.out (.inl rfl)
  refine bodyPost_ret (blk_res2 Tryz.results24 _ _ (a := ⟨w.heap.size + 1, 0, none⟩) (b := ⟨w.heap.size + 2, 0, none⟩) rfl rfl d1.load d2.load) rfl ?_
  exact ⟨Nod.zero, none, 0, 0, none, 0, 0, A3, n3, c3, rfl, d3, d4, d5, ⟨Newer.nil _, Newer.nil _, HN3.out.mono (by omega)⟩, fun h => absurd h (by decide)⟩

set_option maxRecDepth 100000 in
set_option maxHeartbeats 3200000 in
theorem look_deep14 {Aw : Option Addr} {nw cw : Nat} {way : List Int} (pv : Value) (no lo hi ft tree deep : Int) (nd : Nod) (w : World) (hW : Ints w Aw nw cw way) (hno : ¬ no ∈ way) (h16 : 16 < way.length + 1) (h100 : way.length ≤ 1000000) :
    Calls Tryz.prog 24 #[pv, visV14 no lo hi (.slice Aw nw cw) ft, .int .i64 tree, .int .i64 deep] w fun e w' => LkRet w e w' no 10 nd := by
  have hS0 := LkS.start w no lo hi (.slice Aw nw cw) ft
  have HS : Hid (∀ W, LkS w W no lo hi (.slice Aw nw cw) ft → Calls Tryz.prog 43 #[.slice Aw nw cw, .int .i64 no] W fun e w' => e = .returned (.bool false) ∧ W = w') := fun W h => by
    have := refHas_any14 no W (hW.below h.bel)
    rw [decide_eq_false hno] at this
    exact this
  have AT : Hid (∀ W, LkS w W no lo hi (.slice Aw nw cw) ft → Calls Tryz.prog 23 #[.int .i64 no, .int .i64 10] W fun e w' => ∃ A n c, e = .returned (.agg #[.slice A n c, .int .i64 10]) ∧ Hid (Ints w' A n c (atL no 10)) ∧ Hid (Newer (w.heap.size + 3) A) ∧ LkS w w' no lo hi (.slice Aw nw cw) ft) := fun W hW => (ref11At_any no 10 W).mono fun e w' ⟨A, n, c, h1, h2, h3, h4⟩ => ⟨A, n, c, h1, h2, h3.mono hW.low, hW.later h4⟩
  have hle := hW.le
  have hcap := hW.cap
  have hmost := hW.most
  have hln := hW.len
  have hd : decide ((16 : Int) < (nw : Int) + 1) = true := by simp; omega
  have hn6 : nw ≤ 1000000 := by omega
  clear hW hno hln h16 h100
  obtain ⟨⟨b0, b1, b2, b3, b4⟩, ⟨⟨z0, z1, z2, z3⟩, y0, y1, y2, y3⟩, ⟨k0, k1⟩, l0, l1⟩ := hS0.facts
  simp only [visV14]
  go_enter Tryz.func24, Tryz.ntmps24
  go_wp2_with (first
    | (go_at_call 43; (with_reducible refine (HS.out _ hS0).mono ?_); rintro e w1 ⟨rfl, rfl⟩)
    | (go_at_call 23; (with_reducible refine (AT.out _ hS0).mono ?_); rintro e w3 ⟨A3, n3, c3, rfl, HI3, HN3, hS3⟩; clear b0 b1 b2 b3 b4 z0 z1 z2 z3 y0 y1 y2 y3 k0 k1 l0 l1; obtain ⟨⟨b0, b1, b2, b3, b4⟩, ⟨⟨z0, z1, z2, z3⟩, y0, y1, y2, y3⟩, ⟨k0, k1⟩, l0, l1⟩ := hS3.facts))
  obtain ⟨d1, d2, d3, d4, d5⟩ := hS3.done 0 false (NodIn.zero w3) (Newer.nil _) (Newer.nil _) (x := 10) HI3.out HN3.out (.inl rfl)
  refine bodyPost_ret (blk_res2 Tryz.results24 _ _ (a := ⟨w.heap.size + 1, 0, none⟩) (b := ⟨w.heap.size + 2, 0, none⟩) rfl rfl d1.load d2.load) rfl ?_
  exact ⟨Nod.zero, none, 0, 0, none, 0, 0, A3, n3, c3, rfl, d3, d4, d5, ⟨Newer.nil _, Newer.nil _, HN3.out.mono (by omega)⟩, fun h => absurd h (by decide)⟩

/-- .. and behind the reading of a node: the node and its error in two variables of their own -/
structure LkT (w W : World) (no lo hi : Int) (wy : Value) (ft : Int) (b : Nat) (nd : Nod) (A5 : Option Addr) (n5 c5 : Nat) (A6 : Option Addr) (n6 c6 : Nat) (A : Option Addr) (n c : Nat) (x : Int) : Prop where
  base : LkS w W no lo hi wy ft
  nod : NodAt W b nd.tree nd.leaf (.slice A5 n5 c5) (.slice A6 n6 c6)
  err : FltAt W (b + 1) (.slice A n c) (.int .i64 x)
  ndi : NodIn W nd A5 n5 c5 A6 n6 c6
  ints : Ints W A n c (atL no x)
  f5 : Newer (w.heap.size + 3) A5
  f6 : Newer (w.heap.size + 3) A6
  fA : Newer (w.heap.size + 3) A
  low : w.heap.size + 3 ≤ b
section
variable {w W W' : World} {no lo hi ft : Int} {wy : Value} {b : Nat} {nd : Nod} {A5 : Option Addr} {n5 c5 : Nat} {A6 : Option Addr} {n6 c6 : Nat} {A : Option Addr} {n c : Nat} {x : Int}
theorem LkT.later (h : LkT w W no lo hi wy ft b nd A5 n5 c5 A6 n6 c6 A n c x) (hb : Below W.heap.size W W') : LkT w W' no lo hi wy ft b nd A5 n5 c5 A6 n6 c6 A n c x := ⟨h.base.later hb, h.nod.later hb, h.err.later hb, h.ndi.below hb, h.ints.below hb, h.f5, h.f6, h.fA, h.low⟩
theorem LkT.facts (h : LkT w W no lo hi wy ft b nd A5 n5 c5 A6 n6 c6 A n c x) : VisC5 W w.heap.size no lo hi wy ft ∧ NodC4 W (w.heap.size + 1) 0 false (.slice none 0 0) (.slice none 0 0) ∧ FltC2 W (w.heap.size + 2) (.slice none 0 0) (.int .i64 0) ∧ NodC4 W b nd.tree nd.leaf (.slice A5 n5 c5) (.slice A6 n6 c6) ∧ FltC2 W (b + 1) (.slice A n c) (.int .i64 x) := ⟨h.base.box.cs, h.base.res.cs, h.base.flt.cs, h.nod.cs, h.err.cs⟩
theorem LkT.start (hs : LkS w W no lo hi wy ft) (h1 : NodIn W nd A5 n5 c5 A6 n6 c6) (h2 : Ints W A n c (atL no x)) (h3 : Newer (w.heap.size + 3) A5) (h4 : Newer (w.heap.size + 3) A6) (h5 : Newer (w.heap.size + 3) A) :
    LkT w ((W.alloc (.cells #[.int .i64 nd.tree, .bool nd.leaf, .slice A5 n5 c5, .slice A6 n6 c6] 55)).alloc (.cells #[.slice A n c, .int .i64 x] 45)) no lo hi wy ft W.heap.size nd A5 n5 c5 A6 n6 c6 A n c x := by
  obtain ⟨g1, g2, g3⟩ := two_new W (.cells #[.int .i64 nd.tree, .bool nd.leaf, .slice A5 n5 c5, .slice A6 n6 c6] 55) (.cells #[.slice A n c, .int .i64 x] 45)
  exact ⟨hs.later g3, g1, g2, h1.below g3, h2.below g3, h3, h4, h5, hs.low⟩
end

set_option maxRecDepth 100000 in
set_option maxHeartbeats 6400000 in
theorem look_rest14 {B p n : Nat} {v : Value} {L : List UInt8} {Aw : Option Addr} {nw cw : Nat} {way : List Int} (no lo hi ft tree deep : Int) (w : World) (hR : RImg w B p v (blks L n)) (hL : L.length = n * 256) (hW : Ints w Aw nw cw way) (hno : ¬ no ∈ way) (h16 : ¬ 16 < way.length + 1) :
    Calls Tryz.prog 24 #[.pointer (some ⟨p, 0, none⟩), visV14 no lo hi (.slice Aw nw cw) ft, .int .i64 tree, .int .i64 deep] w fun e w' => LkRet w e w' no (lookE14 (nd14 L n tree) deep ⟨no, lo, hi, way, ft⟩) (nd14 L n tree no).2 := by
  have hS0 := LkS.start w no lo hi (.slice Aw nw cw) ft
  have HS : Hid (∀ W, LkS w W no lo hi (.slice Aw nw cw) ft → Calls Tryz.prog 43 #[.slice Aw nw cw, .int .i64 no] W fun e w' => e = .returned (.bool false) ∧ W = w') := fun W h => by
    have := refHas_any14 no W (hW.below h.bel)
    rw [decide_eq_false hno] at this
    exact this
  have hX : lookE14 (nd14 L n tree) deep ⟨no, lo, hi, way, ft⟩ = if nodE11 L n no tree ≠ 0 then nodE11 L n no tree else if ins13 lo hi (nodN11 L n no tree).keys = false then 9 else if (nodN11 L n no tree).leaf = true ∧ deep ≠ 0 ∧ ((nw : Nat) : Int) + 1 ≠ deep then 10 else 0 := by
    rw [← hW.len]
    exact (if_neg hno).trans (if_neg h16)
  obtain ⟨X, hXe⟩ : ∃ X, lookE14 (nd14 L n tree) deep ⟨no, lo, hi, way, ft⟩ = X := ⟨_, rfl⟩
  have hN2 : (nd14 L n tree no).2 = nodN11 L n no tree := rfl
  rw [hXe, hN2]
  rw [hXe] at hX
  have ND : Hid (∀ W, LkS w W no lo hi (.slice Aw nw cw) ft → Calls Tryz.prog 44 #[.pointer (some ⟨p, 0, none⟩), .int .i64 no, .int .i64 tree] W fun e w' => ∃ A m c A5 n5 c5 A6 n6 c6, e = .returned (.tuple #[nodV (nodN11 L n no tree) A5 n5 c5 A6 n6 c6, .agg #[.slice A m c, .int .i64 (nodE11 L n no tree)]]) ∧ Hid (∀ W1, W1 = (w'.alloc (.cells #[.int .i64 (nodN11 L n no tree).tree, .bool (nodN11 L n no tree).leaf, .slice A5 n5 c5, .slice A6 n6 c6] 55)).alloc (.cells #[.slice A m c, .int .i64 (nodE11 L n no tree)] 45) → LkT w W1 no lo hi (.slice Aw nw cw) ft w'.heap.size (nodN11 L n no tree) A5 n5 c5 A6 n6 c6 A m c (nodE11 L n no tree))) := fun W hS => by
    refine (ref11Node_anyF no tree W (hR.later hS.bel) hL).mono ?_
    rintro e w' ⟨f, A5, n5, c5, A6, n6, c6, rfl, h2, ⟨A, m, c, rfl, h3, h4⟩, h5, h6, h7⟩
    refine ⟨A, m, c, A5, n5, c5, A6, n6, c6, rfl, ?_⟩
    rintro W1 rfl
    exact LkT.start (hS.later h5) h2 h3 (h6.mono hS.low) (h7.mono hS.low) (h4.mono hS.low)
  have AT : Hid (∀ (x : Int) W b nd A5 n5 c5 A6 n6 c6 A m c y, LkT w W no lo hi (.slice Aw nw cw) ft b nd A5 n5 c5 A6 n6 c6 A m c y → Calls Tryz.prog 23 #[.int .i64 no, .int .i64 x] W fun e w' => ∃ A3 n3 c3, e = .returned (.agg #[.slice A3 n3 c3, .int .i64 x]) ∧ Hid (Ints w' A3 n3 c3 (atL no x)) ∧ Hid (Newer (w.heap.size + 3) A3) ∧ LkT w w' no lo hi (.slice Aw nw cw) ft b nd A5 n5 c5 A6 n6 c6 A m c y) := fun x W b nd A5 n5 c5 A6 n6 c6 A m c y hW => (ref11At_any no x W).mono fun e w' ⟨A, n, c, h1, h2, h3, h4⟩ => ⟨A, n, c, h1, h2, h3.mono hW.base.low, hW.later h4⟩
  have hlen : nw ≤ 15 := by have := hW.len; omega
  have hcap := hW.cap
  have hmost := hW.most
  have hd : decide ((16 : Int) < (nw : Int) + 1) = false := by simp; omega
  clear hW hno h16 hR hL hN2 hXe
  obtain ⟨⟨b0, b1, b2, b3, b4⟩, ⟨⟨z0, z1, z2, z3⟩, y0, y1, y2, y3⟩, ⟨k0, k1⟩, l0, l1⟩ := hS0.facts
  generalize nodE11 L n no tree = e0 at *
  generalize nodN11 L n no tree = nd at *
  obtain ⟨tr, lf, ks, vs⟩ := nd
  simp only [nodV] at ND
  simp only [visV14]
  by_cases h0 : e0 = 0
  · subst h0
    rw [if_neg (fun h => h rfl)] at hX
    have HX := Lib.hid hX
    clear hX
    go_enter Tryz.func24, Tryz.ntmps24
    go_wp2_with (first
      | (go_at_call 43; (with_reducible refine (HS.out _ hS0).mono ?_); rintro e w1 ⟨rfl, rfl⟩)
      | (go_at_call 44; (with_reducible refine (ND.out _ hS0).mono ?_); rintro e w3 ⟨A, m, c, A5, n5, c5, A6, n6, c6, rfl, HT⟩; clear b0 b1 b2 b3 b4 z0 z1 z2 z3 y0 y1 y2 y3 k0 k1 l0 l1; have hT := HT.out _ rfl; obtain ⟨⟨b0, b1, b2, b3, b4⟩, ⟨⟨z0, z1, z2, z3⟩, y0, y1, y2, y3⟩, ⟨⟨k0, k1⟩, l0, l1⟩, ⟨⟨n0, n1, n2, n3⟩, m0, m1, m2, m3⟩, ⟨q0, q1⟩, o0, o1⟩ := hT.facts))
    clear HT b0 b1 b2 b3 b4 z0 z1 z2 z3 y0 y1 y2 y3 k0 k1 l0 l1 n0 n1 n2 n3 m0 m1 m2 m3 q0 q1 o0 o1 HS ND hS0
    obtain ⟨g, hg⟩ : ∃ g, g = w3.heap.size := ⟨_, rfl⟩
    rw [← hg] at hT ⊢
    obtain ⟨W1, hW1⟩ : ∃ W1, (w3.alloc (.cells #[.int .i64 tr, .bool lf, .slice A5 n5 c5, .slice A6 n6 c6] 55)).alloc (.cells #[.slice A m c, .int .i64 0] 45) = W1 := ⟨_, rfl⟩
    rw [hW1] at hT
    simp only [hW1]
    clear hW1 hg
    have hlow := hT.low
    have hkn := hT.ndi.keys.len
    have hkc := hT.ndi.keys.cap
    have hkm := hT.ndi.keys.most
    have HT0 := Lib.hid hT
    clear hT
    go_loopw [12] (fun i wr => ∃ k : Nat, k ≤ n5 ∧ i = .int .i64 k ∧ Hid (LkT w wr no lo hi (.slice Aw nw cw) ft g ⟨tr, lf, ks, vs⟩ A5 n5 c5 A6 n6 c6 A m c 0) ∧ Hid (∀ j, j < k → hB13 lo hi (ks.getD j 0) = true)) (fun i _ => n5 - (intOf i).toNat)
    case atStart => exact ⟨0, by omega, rfl, HT0, fun j h => by omega⟩
    case round =>
      clear HT0
      obtain ⟨k, hk, rfl, hT, hin⟩ := hrel
      obtain ⟨⟨b0, b1, b2, b3, b4⟩, ⟨⟨z0, z1, z2, z3⟩, y0, y1, y2, y3⟩, ⟨⟨k0, k1⟩, l0, l1⟩, ⟨⟨n0, n1, n2, n3⟩, m0, m1, m2, m3⟩, ⟨q0, q1⟩, o0, o1⟩ := hT.out.facts
      have hnb := hT.out.base.low
      by_cases hlt : k < n5
      · obtain ⟨kb, ko, hA5, _, hc⟩ := hT.out.ndi.keys.row.lit (by rw [i64s_length, hkn]; omega)
        have ck := hc k _ (i64s_at ks k (by rw [hkn]; exact hlt))
        have ek : ks.getD k 0 = ks[k]'(by rw [hkn]; exact hlt) := by rw [List.getD_eq_getElem?_getD, List.getElem?_eq_getElem (by rw [hkn]; exact hlt)]; rfl
        have YES : Hid (hB13 lo hi (ks[k]'(by rw [hkn]; exact hlt)) = true → ∀ j, j < k + 1 → hB13 lo hi (ks.getD j 0) = true) := fun hx j hj => by
          by_cases hjk : j < k
          · exact hin.out j hjk
          · obtain rfl : j = k := by omega
            rw [ek]; exact hx
        have NO : Hid (hB13 lo hi (ks[k]'(by rw [hkn]; exact hlt)) = false → X = 9) := fun hx => by
          rw [HX.out, ins13_no (j := k) (by rw [hkn]; exact hlt) (by rw [ek]; exact hx), if_pos rfl]
        clear hc ek z0 z1 z2 z3 y0 y1 y2 y3 k0 k1 l0 l1 m0 m1 m2 m3 q0 q1 o0 o1 b3 b4 n0 n1 n3
        generalize ks[k]'(by rw [hkn]; exact hlt) = x at *
        have HA := Lib.hid hA5
        subst hA5
        obtain ⟨r, hr⟩ : ∃ r, hB13 lo hi x = r := ⟨_, rfl⟩
        have HS : Hid (∀ W, (W.cell? ⟨w.heap.size, 1, none⟩ = some (.int .i64 lo) ∧ W.cell? ⟨w.heap.size, 2, none⟩ = some (.int .i64 hi) ∧ W.cell? ⟨g, 2, none⟩ = some (.slice (some ⟨kb, ko, none⟩) n5 c5) ∧ W.cell? ⟨kb, ko + k, none⟩ = some (.int .i64 x) ∧ W.cell? ⟨w.heap.size, 0, none⟩ = some (.int .i64 no)) → Calls Tryz.prog 45 #[spnV lo hi, .int .i64 x] W fun e w' => e = .returned (.bool r) ∧ Below W.heap.size W w' ∧ w'.cell? ⟨w.heap.size, 1, none⟩ = some (.int .i64 lo) ∧ w'.cell? ⟨w.heap.size, 2, none⟩ = some (.int .i64 hi) ∧ w'.cell? ⟨g, 2, none⟩ = some (.slice (some ⟨kb, ko, none⟩) n5 c5) ∧ w'.cell? ⟨kb, ko + k, none⟩ = some (.int .i64 x) ∧ w'.cell? ⟨w.heap.size, 0, none⟩ = some (.int .i64 no)) := fun W hW => by
          rw [← hr]
          exact (refHas_any13 lo hi x W).mono fun e w' ⟨h1, h2⟩ => ⟨h1, h2, (h2.cell (p := ⟨w.heap.size, 1, none⟩) (cell_lt hW.1)).trans hW.1, (h2.cell (p := ⟨w.heap.size, 2, none⟩) (cell_lt hW.2.1)).trans hW.2.1, (h2.cell (p := ⟨g, 2, none⟩) (cell_lt hW.2.2.1)).trans hW.2.2.1, (h2.cell (p := ⟨kb, ko + k, none⟩) (cell_lt hW.2.2.2.1)).trans hW.2.2.2.1, (h2.cell (p := ⟨w.heap.size, 0, none⟩) (cell_lt hW.2.2.2.2)).trans hW.2.2.2.2⟩
        rw [hr] at YES NO
        have b0' : wr.drew.cell? ⟨w.heap.size, 0, none⟩ = some (.int .i64 no) := b0
        have b1' : wr.drew.cell? ⟨w.heap.size, 1, none⟩ = some (.int .i64 lo) := b1
        have b2' : wr.drew.cell? ⟨w.heap.size, 2, none⟩ = some (.int .i64 hi) := b2
        have n2' : wr.drew.cell? ⟨g, 2, none⟩ = some (.slice (some ⟨kb, ko, none⟩) n5 c5) := n2
        have ck' : wr.drew.cell? ⟨kb, ko + k, none⟩ = some (.int .i64 x) := ck
        clear hr
        cases r with
        | false =>
          have hX := NO.out rfl
          clear YES NO
          go_wp2
          go_region_held3 (fun W => W.cell? ⟨w.heap.size, 1, none⟩ = some (.int .i64 lo) ∧ W.cell? ⟨w.heap.size, 2, none⟩ = some (.int .i64 hi) ∧ W.cell? ⟨g, 2, none⟩ = some (.slice (some ⟨kb, ko, none⟩) n5 c5) ∧ W.cell? ⟨kb, ko + k, none⟩ = some (.int .i64 x) ∧ W.cell? ⟨w.heap.size, 0, none⟩ = some (.int .i64 no))
            (first | exact ⟨b1', b2', n2', ck', b0'⟩ | exact ⟨e1, e2, e3, e4, e5⟩)
            (first | (go_at_call 45; (with_reducible refine (HS.out _ ⟨b1', b2', n2', ck', b0'⟩).mono ?_); rintro e w5 ⟨rfl, hb5, e1, e2, e3, e4, e5⟩))
          have hT5 := hT.out.later ((Below.refl _ wr).drew.trans hb5)
          subst hX
          go_wp2
          have hT5d := hT5.later ((Below.refl _ _).drew)
          clear b0 b1 b2 n2 ck b0' b1' b2' n2' ck' e1 e2 e3 e4 e5 HS hT
          obtain ⟨⟨b0, b1, b2, b3, b4⟩, ⟨⟨z0, z1, z2, z3⟩, y0, y1, y2, y3⟩, ⟨⟨k0, k1⟩, l0, l1⟩, ⟨⟨n0, n1, n2, n3⟩, m0, m1, m2, m3⟩, ⟨q0, q1⟩, o0, o1⟩ := hT5.facts
          have hnb5 := hT5.base.low
          go_region_with (go_at_call 23; (with_reducible refine (AT.out _ _ _ _ _ _ _ _ _ _ _ _ _ _ (by assumption)).mono ?_); rintro e w6 ⟨A7, n7, c7, rfl, HI7, HN7, hT6⟩; clear b0 b1 b2 b3 b4 z0 z1 z2 z3 y0 y1 y2 y3 k0 k1 l0 l1 n0 n1 n2 n3 m0 m1 m2 m3 q0 q1 o0 o1; obtain ⟨⟨b0, b1, b2, b3, b4⟩, ⟨⟨z0, z1, z2, z3⟩, y0, y1, y2, y3⟩, ⟨⟨k0, k1⟩, l0, l1⟩, ⟨⟨n0, n1, n2, n3⟩, m0, m1, m2, m3⟩, ⟨q0, q1⟩, o0, o1⟩ := hT6.facts; have hnb6 := hT6.base.low)
          all_goals go_wp2
          all_goals obtain ⟨d1, d2, d3, d4, d5⟩ := hT6.base.done tr lf hT6.ndi hT6.f5 hT6.f6 (x := 9) HI7.out HN7.out (.inl rfl)
          all_goals refine bodyPost_ret (blk_res2 Tryz.results24 _ _ (a := ⟨w.heap.size + 1, 0, none⟩) (b := ⟨w.heap.size + 2, 0, none⟩) rfl rfl d1.load d2.load) rfl ?_
          all_goals exact ⟨_, some ⟨kb, ko, none⟩, n5, c5, A6, n6, c6, A7, n7, c7, rfl, d3, d4, d5, ⟨hT6.f5.mono (by omega), hT6.f6.mono (by omega), HN7.out.mono (by omega)⟩, fun h => rfl⟩
        | true =>
          have HY := Lib.hid (YES.out rfl)
          clear YES NO
          go_wp2
          go_region_held3 (fun W => W.cell? ⟨w.heap.size, 1, none⟩ = some (.int .i64 lo) ∧ W.cell? ⟨w.heap.size, 2, none⟩ = some (.int .i64 hi) ∧ W.cell? ⟨g, 2, none⟩ = some (.slice (some ⟨kb, ko, none⟩) n5 c5) ∧ W.cell? ⟨kb, ko + k, none⟩ = some (.int .i64 x) ∧ W.cell? ⟨w.heap.size, 0, none⟩ = some (.int .i64 no))
            (first | exact ⟨b1', b2', n2', ck', b0'⟩ | exact ⟨e1, e2, e3, e4, e5⟩)
            (first | (go_at_call 45; (with_reducible refine (HS.out _ ⟨b1', b2', n2', ck', b0'⟩).mono ?_); rintro e w5 ⟨rfl, hb5, e1, e2, e3, e4, e5⟩))
          have hT5 := Lib.hid (hT.out.later ((Below.refl _ wr).drew.trans hb5))
          go_wp2
          go_roundw
          case rel => exact ⟨k + 1, by omega, by simp, hT5, HY.out⟩
          case measure => simp [intOf]; omega
      · obtain rfl : k = n5 := by omega
        have HI : Hid (ins13 lo hi ks = true) := ins13_yes.2 fun j hj => hin.out j (by have : ks.length = k := hkn; omega)
        have hX := HX.out
        rw [HI.out, if_neg (by decide)] at hX
        have hwr := hT.out.base.low
        cases lf with
        | false =>
          obtain rfl : X = 0 := by rw [hX, if_neg (by simp)]
          clear hX HX
          go_wp2
          obtain ⟨d1, d2, d3, d4, d5⟩ := hT.out.base.done tr false hT.out.ndi hT.out.f5 hT.out.f6 (x := 0) (A := none) (n := 0) (c := 0) (l := atL no 0) (Ints.nil _) (Newer.nil _) (.inl rfl)
          refine bodyPost_ret (blk_res2 Tryz.results24 _ _ (a := ⟨w.heap.size + 1, 0, none⟩) (b := ⟨w.heap.size + 2, 0, none⟩) rfl rfl d1.load d2.load) rfl ?_
          exact ⟨_, A5, k, c5, A6, n6, c6, none, 0, 0, rfl, d3, d4, d5, ⟨hT.out.f5.mono (by omega), hT.out.f6.mono (by omega), Newer.nil _⟩, fun h => rfl⟩
        | true =>
          by_cases hd0 : deep = 0
          · subst hd0
            obtain rfl : X = 0 := by rw [hX, if_neg (by simp)]
            clear hX HX
            go_wp2
            obtain ⟨d1, d2, d3, d4, d5⟩ := hT.out.base.done tr true hT.out.ndi hT.out.f5 hT.out.f6 (x := 0) (A := none) (n := 0) (c := 0) (l := atL no 0) (Ints.nil _) (Newer.nil _) (.inl rfl)
            refine bodyPost_ret (blk_res2 Tryz.results24 _ _ (a := ⟨w.heap.size + 1, 0, none⟩) (b := ⟨w.heap.size + 2, 0, none⟩) rfl rfl d1.load d2.load) rfl ?_
            exact ⟨_, A5, k, c5, A6, n6, c6, none, 0, 0, rfl, d3, d4, d5, ⟨hT.out.f5.mono (by omega), hT.out.f6.mono (by omega), Newer.nil _⟩, fun h => rfl⟩
          · have hdn : (deep != 0) = true := by simpa using hd0
            by_cases hde : (nw : Int) + 1 = deep
            · obtain rfl : X = 0 := by rw [hX, if_neg (fun h => h.2.2 hde)]
              have hde2 : (((nw : Nat) : Int) + 1 != deep) = false := by simpa using hde
              clear hX HX
              go_wp2
              obtain ⟨d1, d2, d3, d4, d5⟩ := hT.out.base.done tr true hT.out.ndi hT.out.f5 hT.out.f6 (x := 0) (A := none) (n := 0) (c := 0) (l := atL no 0) (Ints.nil _) (Newer.nil _) (.inl rfl)
              refine bodyPost_ret (blk_res2 Tryz.results24 _ _ (a := ⟨w.heap.size + 1, 0, none⟩) (b := ⟨w.heap.size + 2, 0, none⟩) rfl rfl d1.load d2.load) rfl ?_
              exact ⟨_, A5, k, c5, A6, n6, c6, none, 0, 0, rfl, d3, d4, d5, ⟨hT.out.f5.mono (by omega), hT.out.f6.mono (by omega), Newer.nil _⟩, fun h => rfl⟩
            · obtain rfl : X = 10 := by rw [hX, if_pos ⟨rfl, hd0, hde⟩]
              have hde2 : (((nw : Nat) : Int) + 1 != deep) = true := by simpa using hde
              clear hX HX
              go_wp2
              have hT5 := hT.out
              have hT5d := hT5.later ((Below.refl _ _).drew)
              go_region_with (go_at_call 23; (with_reducible refine (AT.out _ _ _ _ _ _ _ _ _ _ _ _ _ _ (by assumption)).mono ?_); rintro e w6 ⟨A7, n7, c7, rfl, HI7, HN7, hT6⟩; clear b0 b1 b2 b3 b4 z0 z1 z2 z3 y0 y1 y2 y3 k0 k1 l0 l1 n0 n1 n2 n3 m0 m1 m2 m3 q0 q1 o0 o1; obtain ⟨⟨b0, b1, b2, b3, b4⟩, ⟨⟨z0, z1, z2, z3⟩, y0, y1, y2, y3⟩, ⟨⟨k0, k1⟩, l0, l1⟩, ⟨⟨n0, n1, n2, n3⟩, m0, m1, m2, m3⟩, ⟨q0, q1⟩, o0, o1⟩ := hT6.facts; have hnb6 := hT6.base.low)
              all_goals go_wp2
              all_goals obtain ⟨d1, d2, d3, d4, d5⟩ := hT6.base.done tr true hT6.ndi hT6.f5 hT6.f6 (x := 10) HI7.out HN7.out (.inl rfl)
              all_goals refine bodyPost_ret (blk_res2 Tryz.results24 _ _ (a := ⟨w.heap.size + 1, 0, none⟩) (b := ⟨w.heap.size + 2, 0, none⟩) rfl rfl d1.load d2.load) rfl ?_
              all_goals exact ⟨_, A5, k, c5, A6, n6, c6, A7, n7, c7, rfl, d3, d4, d5, ⟨hT6.f5.mono (by omega), hT6.f6.mono (by omega), HN7.out.mono (by omega)⟩, fun h => rfl⟩
  · have hne : (e0 != 0) = true := by simpa using h0
    rw [if_pos h0] at hX
    subst hX
    go_enter Tryz.func24, Tryz.ntmps24
    go_wp2_with (first
      | (go_at_call 43; (with_reducible refine (HS.out _ hS0).mono ?_); rintro e w1 ⟨rfl, rfl⟩)
      | (go_at_call 44; (with_reducible refine (ND.out _ hS0).mono ?_); rintro e w3 ⟨A, m, c, A5, n5, c5, A6, n6, c6, rfl, HT⟩; clear b0 b1 b2 b3 b4 z0 z1 z2 z3 y0 y1 y2 y3 k0 k1 l0 l1; have hT := HT.out _ rfl; obtain ⟨⟨b0, b1, b2, b3, b4⟩, ⟨⟨z0, z1, z2, z3⟩, y0, y1, y2, y3⟩, ⟨⟨k0, k1⟩, l0, l1⟩, ⟨⟨n0, n1, n2, n3⟩, m0, m1, m2, m3⟩, ⟨q0, q1⟩, o0, o1⟩ := hT.facts))
    clear HT
    have hlow := hT.low
    have hnb := hT.base.low
    go_region
    go_wp2
    obtain ⟨d1, d2, d3, d4, d5⟩ := LkS.doneD (hT.base.done tr lf hT.ndi hT.f5 hT.f6 (x := X) hT.ints hT.fA (.inl rfl))
    refine bodyPost_ret (blk_res2 Tryz.results24 _ _ (a := ⟨w.heap.size + 1, 0, none⟩) (b := ⟨w.heap.size + 2, 0, none⟩) rfl rfl d1.load d2.load) rfl ?_
    exact ⟨_, A5, n5, c5, A6, n6, c6, A, m, c, rfl, d3, d4, d5, ⟨hT.f5.mono (by omega), hT.f6.mono (by omega), hT.fA.mono (by omega)⟩, fun h => rfl⟩

/-- look, of any visit -/
theorem look_any14 {B p n : Nat} {v : Value} {L : List UInt8} {Aw : Option Addr} {nw cw : Nat} {way : List Int} (no lo hi ft tree deep : Int) (w : World) (hR : RImg w B p v (blks L n)) (hL : L.length = n * 256) (hW : Ints w Aw nw cw way) (hw : way.length ≤ 1000000) :
    Calls Tryz.prog 24 #[.pointer (some ⟨p, 0, none⟩), visV14 no lo hi (.slice Aw nw cw) ft, .int .i64 tree, .int .i64 deep] w fun e w' => LkRet w e w' no (lookE14 (nd14 L n tree) deep ⟨no, lo, hi, way, ft⟩) (nd14 L n tree no).2 := by
  by_cases h1 : no ∈ way
  · have e1 : lookE14 (nd14 L n tree) deep ⟨no, lo, hi, way, ft⟩ = 11 := if_pos h1
    rw [e1]
    exact look_loop14 _ no lo hi ft tree deep _ w hW h1
  · by_cases h2 : 16 < way.length + 1
    · have e1 : lookE14 (nd14 L n tree) deep ⟨no, lo, hi, way, ft⟩ = 10 := (if_neg h1).trans (if_pos h2)
      rw [e1]
      exact look_deep14 _ no lo hi ft tree deep _ w hW h1 h2 hw
    · exact look_rest14 no lo hi ft tree deep w hR hL hW h1 h2

end Go.Proofs.YtfcehhhcjlpklaaGreatDoor
