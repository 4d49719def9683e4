/-
  Joined: BlkR, BlkS, BlkW.
-/
import Derived.Test.YtbeobbanppkmhaaGreatDoorJBlkC41
import Derived.Test.YtbeobbanppkmhaaGreatDoorJBlkC26
import Derived.Test.YtbeobbanppkmhaaGreatDoorJBlkC24
import Derived.Test.YtbeobbanppkmhaaGreatDoorJBlkC20
import Derived.Test.YtbeobbanppkmhaaGreatDoorJBlkC18
import Derived.Test.YtbeobbanppkmhaaGreatDoorJBlkC39
import Derived.Test.YtbeobbanppkmhaaGreatDoorJBlkC02
import Derived.Test.YtbeobbanppkmhaaGreatDoorJBlkC34
import Derived.Test.YtbeobbanppkmhaaGreatDoorJBlkC37
import Derived.Test.YtbeobbanppkmhaaGreatDoorJBlkC19
import Derived.Test.YtbeobbanppkmhaaGreatDoorJBlkC15
/-
  Layer 11's reference: At, in, Bits, Index.
-/
namespace Go.Proofs.YtbeobbanppkmhaaGreatDoor
open Go.RowKit
set_option linter.unusedVariables false
set_option linter.unusedSimpArgs false

set_option maxRecDepth 100000 in
set_option maxHeartbeats 4000000 in
theorem refAt_newer (b : Int) {A : Option Addr} {n c : Nat} {bs : List Int} {code : Int} (hc : code ≠ 0) (w : World) (hI : Ints w A n c bs) (hn : n ≤ 300) :
    Calls Tryz.prog 87 #[.int .i64 b, .agg #[.slice A n c, .int .i64 code]] w fun e w' => ∃ A2 c2, e = .returned (.agg #[.slice A2 (n + 1) c2, .int .i64 code]) ∧ Ints w' A2 (n + 1) c2 (b :: bs) ∧ Below w.heap.size w w' ∧ Newer (w.heap.size + 2) A2 := by
  have hcb : (code == 0) = false := by simpa using hc
  have hle := hI.le
  have HI := Lib.hid hI
  clear hI hc
  go_enter Tryz.func87, Tryz.ntmps87
  have b1 : Below w.heap.size w (w.alloc (.cells #[.slice A n c, .int .i64 code] 36)) := (Below.refl _ _).alloc (Nat.le_refl _) _
  have b2 : Below w.heap.size w ((w.alloc (.cells #[.slice A n c, .int .i64 code] 36)).alloc (.cells #[.slice none 0 0, .int .i64 0] 36)) := b1.alloc b1.size _
  have hs : (w.alloc (.cells #[.slice A n c, .int .i64 code] 36)).heap.size = w.heap.size + 1 := by simp
  have h0 : ((w.alloc (.cells #[.slice A n c, .int .i64 code] 36)).alloc (.cells #[.slice none 0 0, .int .i64 0] 36)).heap[w.heap.size]? = some (.cells #[.slice A n c, .int .i64 code] 36 (0, 0)) := (Below.heap_alloc _ _ _ (by omega)).trans (MapKept.heap_alloc w _).1
  have h1 := (MapKept.heap_alloc (w.alloc (.cells #[.slice A n c, .int .i64 code] 36)) (.cells #[.slice none 0 0, .int .i64 0] 36)).1
  rw [hs] at h1
  have hsz : ((w.alloc (.cells #[.slice A n c, .int .i64 code] 36)).alloc (.cells #[.slice none 0 0, .int .i64 0] 36)).heap.size = w.heap.size + 2 := by simp
  have H0 := Lib.hid h0
  have H1 := Lib.hid h1
  have B2 := Lib.hid b2
  have HSz := Lib.hid hsz
  have OWN := Lib.hid (fun W => own_one ((w.alloc (.cells #[.slice A n c, .int .i64 code] 36)).alloc (.cells #[.slice none 0 0, .int .i64 0] 36)) W b)
  rw [hsz] at OWN
  have hRw : Hid (∀ W, Below w.heap.size w W → Row W A (i64s bs)) := fun W h => (HI.out.below h).row
  have hBA := Lib.hid (((Below.refl (w.heap.size + 2) ((w.alloc (.cells #[.slice A n c, .int .i64 code] 36)).alloc (.cells #[.slice none 0 0, .int .i64 0] 36))).alloc (by omega) (.cells #[.int .i64 b] 3)).drew)
  clear h0 h1 b1 b2 hs hsz
  go_wp2
  go_region_law (first
    | (refine step_append_row _ rfl (.tmp 10) (.tmp 12) 34 rfl (w.heap.size + 2) 3 (.int .i64 0) 8 Tryz.underlying34 info_i64 rfl (.slice (some ⟨w.heap.size + 2, 0, none⟩) 1 1) 1 [.int .i64 b] rfl (OWN.out _ (Below.refl _ _).drew) (by simp) A (i64s bs) n c rfl (by rw [i64s_length]; exact HI.out.len) (hRw.out _ ((B2.out.alloc B2.out.size _).drew)) (i64s_one _) (by omega) (by omega) ?_
       intro v2 w2 hown2 hs2 hb2
       rw [Nat.add_comm 1 n] at hown2
       have hb3 := hBA.out.trans hb2
       have hp0 := (hb3.block w.heap.size (by omega)).trans H0.out
       have hp1 := (hb3.block (w.heap.size + 1) (by omega)).trans H1.out
       have HP1 := Lib.hid hp1
       have HB3 := Lib.hid (B2.out.trans (hb3.mono (by omega)))
       have k1 : w2.cell? ⟨w.heap.size, 1, none⟩ = some (.int .i64 code) := by rw [cell_of_row w2 w.heap.size 1 _ _ _ hp0]; rfl
       have k2 : w2.cell? ⟨w.heap.size + 1, 0, none⟩ = some (.slice none 0 0) := by rw [cell_of_row w2 (w.heap.size + 1) 0 _ _ _ hp1]; rfl
       have k3 : w2.cell? ⟨w.heap.size + 1, 1, none⟩ = some (.int .i64 0) := by rw [cell_of_row w2 (w.heap.size + 1) 1 _ _ _ hp1]; rfl
       have f0 := Lib.frozen_of_heap hp1 0
       have f1 := Lib.frozen_of_heap hp1 1
       clear hb2 hb3 hp0 hp1
       obtain ⟨A2, c2, hv2, h62, h63⟩ := ownsRow_form hown2.out
       rw [hv2]))
  all_goals go_wp2
  all_goals
    refine bodyPost_ret (results_rf Tryz.results87 _ _ (w.heap.size + 1) (.slice A2 (n + 1) c2) (.int .i64 code) rfl (two_sets HP1.out)) rfl ?_
    have ho : w2.ownsRow (w.heap.size + 2) 3 1 (.slice A2 (n + 1) c2) (n + 1) (i64s (b :: bs)) := by
      have := hown2.out
      rw [hv2] at this
      exact this
    obtain ⟨A3, c3, he, hI⟩ := Ints.of_own ho
    injection he with e1 e2 e3
    subst e1 e3
    refine ⟨A2, c2, rfl, hI.kept2 fun ad e => ?_, (HB3.out.setCell (p := ⟨w.heap.size + 1, 0, none⟩) (by simp) _).setCell (p := ⟨w.heap.size + 1, 1, none⟩) (by simp) _, fun ad e => (own_apart ho ad.block (by rw [e]; rfl)).1⟩
    have := (own_apart ho ad.block (by rw [e]; rfl)).1
    omega

theorem two_keep (w : World) (g : Nat) (a b : Value) {B : Nat} (hg : g < B) (k : Nat) (hk : B ≤ k) : ((w.setCell ⟨g, 0, none⟩ a).setCell ⟨g, 1, none⟩ b).heap[k]? = w.heap[k]? := by
  rw [heap_setCell_other _ _ k _ (by show k ≠ g; omega), heap_setCell_other _ _ k _ (by show k ≠ g; omega)]
theorem below_store2 {B g : Nat} {w0 w : World} (hb : Below B w0 w) (hg : B ≤ g) (a b : Value) : Below B w0 ((w.setCell ⟨g, 0, none⟩ a).setCell ⟨g, 1, none⟩ b) :=
  (hb.setCell (p := ⟨g, 0, none⟩) hg _).setCell (p := ⟨g, 1, none⟩) hg _

/-- an error's variable, all below as it was -/
def Bx (w W : World) : Prop := SmS w W w.heap.size (.slice none 0 0) (.int .i64 0)
theorem Bx.start (w : World) : Bx w (w.alloc (.cells #[.slice none 0 0, .int .i64 0] 36)) := ⟨(Below.refl _ _).alloc (Nat.le_refl _) _, FltAt.new w _ _⟩
theorem Bx.later {w W W' : World} (h : Bx w W) (hb : Below W.heap.size W W') : Bx w W' := SmS.later h hb
theorem Bx.low {w W : World} (h : Bx w W) : w.heap.size + 1 ≤ W.heap.size := block_lt h.flt

set_option maxRecDepth 100000 in
set_option maxHeartbeats 800000 in
theorem ref11At_any (no x : Int) (w : World) :
    Calls Tryz.prog 38 #[.int .i64 no, .int .i64 x] w fun e w' => ∃ A n c, e = .returned (.agg #[.slice A n c, .int .i64 x]) ∧ Ints w' A n c (atL no x) ∧ Newer w.heap.size A ∧ Below w.heap.size w w' := by
  have AT : Hid (∀ W, Bx w W → Calls Tryz.prog 87 #[.int .i64 no, .agg #[.slice none 0 0, .int .i64 x]] W fun e w' => ∃ A n c, e = .returned (.agg #[.slice A n c, .int .i64 x]) ∧ Ints w' A n c (atL no x) ∧ Newer (w.heap.size + 1) A ∧ Bx w w') := fun W hW => by
    by_cases hx : x = 0
    · subst hx
      exact (refAt_nil no none 0 0 W).mono fun e w' ⟨h1, h2⟩ => ⟨none, 0, 0, h1, Ints.nil _, Newer.nil _, hW.later h2⟩
    · rw [atL, if_neg hx]
      refine (refAt_newer no hx W (Ints.nil W) (by omega)).mono ?_
      rintro e w' ⟨A, c, h1, h2, h3, h4⟩
      have := hW.low
      exact ⟨A, 1, c, h1, h2, h4.mono (by omega), hW.later h3⟩
  have hN0 := Bx.start w
  generalize atL no x = l at *
  go_enter Tryz.func38, Tryz.ntmps38
  go_wp2_with (go_at_call 87; (with_reducible refine (AT.out _ hN0).mono ?_); rintro e w1 ⟨A1, n1, c1, rfl, hI, hn, hN1⟩; have HI := Lib.hid hI; have HNW := Lib.hid hn; clear hI hn; obtain ⟨⟨z0, z1⟩, y0, y1⟩ := hN1.flt.cs)
  refine bodyPost_ret (results_rf Tryz.results38 _ _ w.heap.size (.slice A1 n1 c1) (.int .i64 x) rfl (hN1.flt.store _ _)) rfl ?_
  exact ⟨A1, n1, c1, rfl, HI.out.newer HNW.out (two_keep w1 w.heap.size _ _ (by omega)), HNW.out.mono (by omega), below_store2 hN1.bel (Nat.le_refl _) _ _⟩

set_option maxRecDepth 100000 in
set_option maxHeartbeats 800000 in
theorem ref11in_any {B p : Nat} {v : Value} {L : List UInt8} {n : Nat} (no kind : Int) (w : World) (h : RImg w B p v (blks L n)) (hL : L.length = n * 256) :
    Calls Tryz.prog 37 #[.pointer (some ⟨p, 0, none⟩), .int .i64 no, .int .i64 kind] w fun e w' => ∃ A m c, e = .returned (.tuple #[.slice A m c, .int .i64 (inE11 L n no kind)]) ∧ Bytes8 w' A m c (inB11 L n no kind) ∧ Below w.heap.size w w' := by
  cases ho : outB n no with
  | true =>
    have R := Lib.hid (refIRead_bad no w h (by rw [blks_length]; exact outB_iff.1 ho))
    have e1 : inE11 L n no kind = 3 := by rw [inE11, ho]; rfl
    have e2 : inB11 L n no kind = [] := by rw [inB11, ho]; rfl
    rw [e1, e2]
    clear h e1 e2 ho
    go_enter Tryz.func37, Tryz.ntmps37
    go_wp2_with (go_at_call 85; (with_reducible refine (R.out).mono ?_); rintro e w1 ⟨rfl, rfl⟩)
    go_ret2
    exact ⟨none, 0, 0, rfl, Bytes8.nil _, Below.refl _ _⟩
  | false =>
    obtain ⟨h0, h1⟩ := outB_not.1 ho
    obtain ⟨k, rfl⟩ := Int.eq_ofNat_of_zero_le h0
    have hk : k < (blks L n).length := by rw [blks_length]; omega
    have hkk : (blks L n)[k] = blk L k := by simp [blks]
    have hbl : (blk L k).length = 256 := blk_length hL (by omega)
    have R : Hid (Calls Tryz.prog 85 #[.pointer (some ⟨p, 0, none⟩), .int .i64 (k : Int)] w fun e w' => ∃ A c, e = .returned (.tuple #[.slice A 256 c, .int .i64 0]) ∧ Bytes8 w' A 256 c (blk L k) ∧ Below w.heap.size w w') := by
      have := refIRead_good k w h hk (by rw [hkk, hbl]; omega)
      rw [hkk, hbl] at this
      exact this
    have O := Lib.hid (fun W A c (hB : Bytes8 W A 256 c (blk L k)) => refOpen_any A 256 c (blk L k) kind (k : Int) W hB)
    have e1 : inE11 L n k kind = openE (blk L k) kind k := by rw [inE11, ho]; rfl
    have e2 : inB11 L n k kind = openB (blk L k) kind k := by rw [inB11, ho]; rfl
    rw [e1, e2]
    clear h e1 e2 ho hk hkk hbl
    generalize openE (blk L k) kind k = x at *
    generalize openB (blk L k) kind k = bb at *
    generalize blk L k = bl at *
    go_enter Tryz.func37, Tryz.ntmps37
    go_wp2_with (first
      | (go_at_call 85; (with_reducible refine (R.out).mono ?_); rintro e w1 ⟨A1, c1, rfl, hB1, hb1⟩; have HB1 := Lib.hid hB1; clear hB1)
      | (go_at_call 86; (with_reducible refine (O.out _ _ _ HB1.out).mono ?_); rintro e w2 ⟨A2, m2, c2, rfl, hB2, hb2⟩; have HB2 := Lib.hid hB2; clear hB2))
    go_ret2
    exact ⟨A2, m2, c2, rfl, HB2.out, hb1.trans (hb2.mono hb1.size)⟩

set_option maxRecDepth 100000 in
set_option maxHeartbeats 1600000 in
theorem ref11Bits_any {B p : Nat} {v : Value} {L : List UInt8} {n : Nat} (no : Int) (w : World) (h : RImg w B p v (blks L n)) (hL : L.length = n * 256) :
    Calls Tryz.prog 17 #[.pointer (some ⟨p, 0, none⟩), .int .i64 no] w fun e w' => ∃ A m c f, e = .returned (.tuple #[.slice A m c, f]) ∧ Ints w' A m c (bitL11 L n no) ∧ BadAt w' f no (bitE11 L n no) ∧ Below w.heap.size w w' := by
  have AT : Hid (∀ W x, Bx w W → Calls Tryz.prog 38 #[.int .i64 no, .int .i64 x] W fun e w' => ∃ A n c, e = .returned (.agg #[.slice A n c, .int .i64 x]) ∧ Ints w' A n c (atL no x) ∧ Newer (w.heap.size + 1) A ∧ Bx w w' ∧ Below W.heap.size W w') := fun W x hW => (ref11At_any no x W).mono fun e w' ⟨A, n, c, h1, h2, h3, h4⟩ => ⟨A, n, c, h1, h2, h3.mono hW.low, hW.later h4, h4⟩
  have IN : Hid (∀ W, Bx w W → Calls Tryz.prog 37 #[.pointer (some ⟨p, 0, none⟩), .int .i64 no, .int .i64 3] W fun e w' => ∃ A m c, e = .returned (.tuple #[.slice A m c, .int .i64 (inE11 L n no 3)]) ∧ Bytes8 w' A m c (inB11 L n no 3) ∧ Bx w w') := fun W hW => (ref11in_any no 3 W (h.later hW.bel) hL).mono fun e w' ⟨A, m, c, h1, h2, h3⟩ => ⟨A, m, c, h1, h2, hW.later h3⟩
  have hN0 := Bx.start w
  by_cases he : inE11 L n no 3 = 0
  · have RD : Hid (∀ W A m c, Bx w W → Bytes8 W A m c (inB11 L n no 3) → Calls Tryz.prog 48 #[.slice A m c] W fun e w' => ∃ A' m' c', e = .returned (.tuple #[.slice A' m' c', .int .i64 (readBE9 (inB11 L n no 3))]) ∧ Ints w' A' m' c' (readBL9 (inB11 L n no 3)) ∧ Bx w w' ∧ Newer (w.heap.size + 1) A') := fun W A m c hW hB => (refRead_any9F A m c _ W hB).mono fun e w' ⟨A', m', c', h1, h2, h3, h4⟩ => ⟨A', m', c', h1, h2, hW.later h3, h4.mono hW.low⟩
    have e1 : bitE11 L n no = readBE9 (inB11 L n no 3) := by rw [bitE11, if_neg (fun h => h he)]
    have e2 : bitL11 L n no = readBL9 (inB11 L n no 3) := by rw [bitL11, if_neg (fun h => h he)]
    rw [he] at IN
    rw [e1, e2]
    clear h e1 e2 he
    generalize inB11 L n no 3 = bb at *
    generalize readBE9 bb = x at *
    generalize readBL9 bb = l at *
    go_enter Tryz.func17, Tryz.ntmps17
    go_wp2_with (first
      | (go_at_call 37; (with_reducible refine (IN.out _ hN0).mono ?_); rintro e w1 ⟨A1, m1, c1, rfl, hB1, hN1⟩; have HB1 := Lib.hid hB1; clear hB1)
      | (go_at_call 48; (with_reducible refine (RD.out _ _ _ _ hN1 HB1.out).mono ?_); rintro e w2 ⟨A2, m2, c2, rfl, hI2, hN2, hn2⟩; have HI2 := Lib.hid hI2; have HN2 := Lib.hid hn2; clear hI2 hn2)
      | (go_at_call 38; (with_reducible refine (AT.out _ _ hN2).mono ?_); rintro e w3 ⟨A3, n3, c3, rfl, hI3, hn3, hN3, hb3⟩; have HI3 := Lib.hid hI3; have HN3 := Lib.hid hn3; have HI4 := Lib.hid (HI2.out.below hb3); clear hI3 hn3; obtain ⟨⟨z0, z1⟩, y0, y1⟩ := hN3.flt.cs))
    refine bodyPost_ret (blk_resT Tryz.results17 _ _ (b := ⟨w.heap.size, 0, none⟩) rfl (FltAt.load (hN3.flt.store (.slice A3 n3 c3) (.int .i64 x)))) rfl ?_
    exact ⟨A2, m2, c2, _, rfl, HI4.out.newer HN2.out (two_keep w3 w.heap.size _ _ (by omega)), ⟨A3, n3, c3, rfl, HI3.out.newer HN3.out (two_keep w3 w.heap.size _ _ (by omega))⟩, below_store2 hN3.bel (Nat.le_refl _) _ _⟩
  · have e1 : bitE11 L n no = inE11 L n no 3 := by rw [bitE11, if_pos he]
    have e2 : bitL11 L n no = [] := by rw [bitL11, if_pos he]
    rw [e1, e2]
    have hne : (inE11 L n no 3 != 0) = true := by simpa using he
    clear h e1 e2 he
    generalize inE11 L n no 3 = x at *
    generalize inB11 L n no 3 = bb at *
    go_enter Tryz.func17, Tryz.ntmps17
    go_wp2_with (first
      | (go_at_call 37; (with_reducible refine (IN.out _ hN0).mono ?_); rintro e w1 ⟨A1, m1, c1, rfl, hB1, hN1⟩; clear hB1)
      | (go_at_call 38; (with_reducible refine (AT.out _ _ hN1).mono ?_); rintro e w3 ⟨A3, n3, c3, rfl, hI3, hn3, hN3, hb3⟩; have HI3 := Lib.hid hI3; have HN3 := Lib.hid hn3; clear hI3 hn3; obtain ⟨⟨z0, z1⟩, y0, y1⟩ := hN3.flt.cs))
    refine bodyPost_ret (blk_resT Tryz.results17 _ _ (b := ⟨w.heap.size, 0, none⟩) rfl (FltAt.load (hN3.flt.store (.slice A3 n3 c3) (.int .i64 x)))) rfl ?_
    exact ⟨none, 0, 0, _, rfl, Ints.nil _, ⟨A3, n3, c3, rfl, HI3.out.newer HN3.out (two_keep w3 w.heap.size _ _ (by omega))⟩, below_store2 hN3.bel (Nat.le_refl _) _ _⟩

theorem Trs.newer {w w' : World} {A : Option Addr} {n c : Nat} {l : List Slt} {B : Nat} (h : Trs w A n c l) (hA : Newer B A) (hk : ∀ k, B ≤ k → w'.heap[k]? = w.heap[k]?) : Trs w' A n c l :=
  ⟨h.len, h.cap, h.most, fun k hkl => by
    obtain ⟨ad, e, h0, h1, h2⟩ := h.row k hkl
    have hb : ∀ j, w'.cell? (ad.add j) = w.cell? (ad.add j) := fun j => World.cell?_of_block (hk _ (by rw [addr_add_block]; exact hA ad e))
    exact ⟨ad, e, (hb _).trans h0, (hb _).trans h1, (hb _).trans h2⟩⟩

set_option maxRecDepth 100000 in
set_option maxHeartbeats 1600000 in
theorem ref11Index_any {B p : Nat} {v : Value} {L : List UInt8} {n : Nat} (no : Int) (w : World) (h : RImg w B p v (blks L n)) (hL : L.length = n * 256) :
    Calls Tryz.prog 19 #[.pointer (some ⟨p, 0, none⟩), .int .i64 no] w fun e w' => ∃ A m c f, e = .returned (.tuple #[.slice A m c, f]) ∧ Trs w' A m c (sltL11 L n no) ∧ BadAt w' f no (sltE11 L n no) ∧ Below w.heap.size w w' := by
  have AT : Hid (∀ W x, Bx w W → Calls Tryz.prog 38 #[.int .i64 no, .int .i64 x] W fun e w' => ∃ A n c, e = .returned (.agg #[.slice A n c, .int .i64 x]) ∧ Ints w' A n c (atL no x) ∧ Newer (w.heap.size + 1) A ∧ Bx w w' ∧ Below W.heap.size W w') := fun W x hW => (ref11At_any no x W).mono fun e w' ⟨A, n, c, h1, h2, h3, h4⟩ => ⟨A, n, c, h1, h2, h3.mono hW.low, hW.later h4, h4⟩
  have IN : Hid (∀ W, Bx w W → Calls Tryz.prog 37 #[.pointer (some ⟨p, 0, none⟩), .int .i64 no, .int .i64 4] W fun e w' => ∃ A m c, e = .returned (.tuple #[.slice A m c, .int .i64 (inE11 L n no 4)]) ∧ Bytes8 w' A m c (inB11 L n no 4) ∧ Bx w w') := fun W hW => (ref11in_any no 4 W (h.later hW.bel) hL).mono fun e w' ⟨A, m, c, h1, h2, h3⟩ => ⟨A, m, c, h1, h2, hW.later h3⟩
  have hN0 := Bx.start w
  by_cases he : inE11 L n no 4 = 0
  · have RD : Hid (∀ W A m c, Bx w W → Bytes8 W A m c (inB11 L n no 4) → Calls Tryz.prog 51 #[.slice A m c] W fun e w' => ∃ A' m' c', e = .returned (.tuple #[.slice A' m' c', .int .i64 (readSE10 (inB11 L n no 4))]) ∧ Trs w' A' m' c' (readSL10 (inB11 L n no 4)) ∧ Bx w w' ∧ Newer (w.heap.size + 1) A') := fun W A m c hW hB => (refSlRead_anyF A m c _ W hB).mono fun e w' ⟨A', m', c', h1, h2, h3, h4⟩ => ⟨A', m', c', h1, h2, hW.later h3, h4.mono hW.low⟩
    have e1 : sltE11 L n no = readSE10 (inB11 L n no 4) := by rw [sltE11, if_neg (fun h => h he)]
    have e2 : sltL11 L n no = readSL10 (inB11 L n no 4) := by rw [sltL11, if_neg (fun h => h he)]
    rw [he] at IN
    rw [e1, e2]
    clear h e1 e2 he
    generalize inB11 L n no 4 = bb at *
    generalize readSE10 bb = x at *
    generalize readSL10 bb = l at *
    go_enter Tryz.func19, Tryz.ntmps19
    go_wp2_with (first
      | (go_at_call 37; (with_reducible refine (IN.out _ hN0).mono ?_); rintro e w1 ⟨A1, m1, c1, rfl, hB1, hN1⟩; have HB1 := Lib.hid hB1; clear hB1)
      | (go_at_call 51; (with_reducible refine (RD.out _ _ _ _ hN1 HB1.out).mono ?_); rintro e w2 ⟨A2, m2, c2, rfl, hI2, hN2, hn2⟩; have HI2 := Lib.hid hI2; have HN2 := Lib.hid hn2; clear hI2 hn2)
      | (go_at_call 38; (with_reducible refine (AT.out _ _ hN2).mono ?_); rintro e w3 ⟨A3, n3, c3, rfl, hI3, hn3, hN3, hb3⟩; have HI3 := Lib.hid hI3; have HN3 := Lib.hid hn3; have HI4 := Lib.hid (HI2.out.below hb3); clear hI3 hn3; obtain ⟨⟨z0, z1⟩, y0, y1⟩ := hN3.flt.cs))
    refine bodyPost_ret (blk_resT Tryz.results19 _ _ (b := ⟨w.heap.size, 0, none⟩) rfl (FltAt.load (hN3.flt.store (.slice A3 n3 c3) (.int .i64 x)))) rfl ?_
    exact ⟨A2, m2, c2, _, rfl, HI4.out.newer HN2.out (two_keep w3 w.heap.size _ _ (by omega)), ⟨A3, n3, c3, rfl, HI3.out.newer HN3.out (two_keep w3 w.heap.size _ _ (by omega))⟩, below_store2 hN3.bel (Nat.le_refl _) _ _⟩
  · have e1 : sltE11 L n no = inE11 L n no 4 := by rw [sltE11, if_pos he]
    have e2 : sltL11 L n no = [] := by rw [sltL11, if_pos he]
    rw [e1, e2]
    have hne : (inE11 L n no 4 != 0) = true := by simpa using he
    clear h e1 e2 he
    generalize inE11 L n no 4 = x at *
    generalize inB11 L n no 4 = bb at *
    go_enter Tryz.func19, Tryz.ntmps19
    go_wp2_with (first
      | (go_at_call 37; (with_reducible refine (IN.out _ hN0).mono ?_); rintro e w1 ⟨A1, m1, c1, rfl, hB1, hN1⟩; clear hB1)
      | (go_at_call 38; (with_reducible refine (AT.out _ _ hN1).mono ?_); rintro e w3 ⟨A3, n3, c3, rfl, hI3, hn3, hN3, hb3⟩; have HI3 := Lib.hid hI3; have HN3 := Lib.hid hn3; clear hI3 hn3; obtain ⟨⟨z0, z1⟩, y0, y1⟩ := hN3.flt.cs))
    refine bodyPost_ret (blk_resT Tryz.results19 _ _ (b := ⟨w.heap.size, 0, none⟩) rfl (FltAt.load (hN3.flt.store (.slice A3 n3 c3) (.int .i64 x)))) rfl ?_
    exact ⟨none, 0, 0, _, rfl, Trs.nil _, ⟨A3, n3, c3, rfl, HI3.out.newer HN3.out (two_keep w3 w.heap.size _ _ (by omega))⟩, below_store2 hN3.bel (Nat.le_refl _) _ _⟩

end Go.Proofs.YtbeobbanppkmhaaGreatDoor

/-
  Layer 11's reference: Super, Node.
-/
namespace Go.Proofs.YtbeobbanppkmhaaGreatDoor
open Go.RowKit
set_option linter.unusedVariables false
set_option linter.unusedSimpArgs false

theorem sup_keep (w : World) (g : Nat) (h : Nat → Int) (k : Nat) (hk : k ≠ g) : (((((((((((w.setCell ⟨g, 0, none⟩ (.int .i64 (h 0))).setCell ⟨g, 1, none⟩ (.int .i64 (h 1))).setCell ⟨g, 2, none⟩ (.int .i64 (h 2))).setCell ⟨g, 3, none⟩ (.int .i64 (h 3))).setCell ⟨g, 4, none⟩ (.int .i64 (h 4))).setCell ⟨g, 5, none⟩ (.int .i64 (h 5))).setCell ⟨g, 6, none⟩ (.int .i64 (h 6))).setCell ⟨g, 7, none⟩ (.int .i64 (h 7))).setCell ⟨g, 8, none⟩ (.int .i64 (h 8))).setCell ⟨g, 9, none⟩ (.int .i64 (h 9))).setCell ⟨g, 10, none⟩ (.int .i64 (h 10))).heap[k]? = w.heap[k]? := by
  have e : ∀ (V : World) (i : Nat) (v : Value), (V.setCell ⟨g, i, none⟩ v).heap[k]? = V.heap[k]? := fun V i v => heap_setCell_other _ _ _ _ (by show k ≠ g; exact hk)
  rw [e, e, e, e, e, e, e, e, e, e, e]

/-- a superblock's variable and an error's, all below as it was -/
structure RfS (w W : World) : Prop where
  res : SupAt W w.heap.size (fun _ => 0)
  flt : FltAt W (w.heap.size + 1) (.slice none 0 0) (.int .i64 0)
  bel : Below w.heap.size w W
theorem RfS.later {w W W' : World} (h : RfS w W) (hb : Below W.heap.size W W') : RfS w W' := ⟨h.res.later hb, h.flt.later hb, h.bel.trans (hb.mono h.bel.size)⟩
theorem RfS.low {w W : World} (h : RfS w W) : w.heap.size + 2 ≤ W.heap.size := by have := block_lt h.flt; omega
theorem RfS.facts {w W : World} (h : RfS w W) : SupC11 W w.heap.size (fun _ => 0) ∧ SupF11 W w.heap.size ∧ FltC2 W (w.heap.size + 1) (.slice none 0 0) (.int .i64 0) := ⟨h.res.cs, h.res.fs, h.flt.cs⟩
theorem RfS.start (w : World) : RfS w ((w.alloc (.cells #[.int .i64 0, .int .i64 0, .int .i64 0, .int .i64 0, .int .i64 0, .int .i64 0, .int .i64 0, .int .i64 0, .int .i64 0, .int .i64 0, .int .i64 0] 29)).alloc (.cells #[.slice none 0 0, .int .i64 0] 36)) := by
  obtain ⟨h1, h2, h3⟩ := two_new w (.cells #[.int .i64 0, .int .i64 0, .int .i64 0, .int .i64 0, .int .i64 0, .int .i64 0, .int .i64 0, .int .i64 0, .int .i64 0, .int .i64 0, .int .i64 0] 29) (.cells #[.slice none 0 0, .int .i64 0] 36)
  exact ⟨h1, h2, h3⟩
theorem RfS.done {w W : World} (hs : RfS w W) (h : Nat → Int) {A : Option Addr} {n c : Nat} {no x : Int} (hI : Ints W A n c (atL no x)) (hn : Newer (w.heap.size + 2) A) :
    SupAt (((((((((((((W.setCell ⟨w.heap.size, 0, none⟩ (.int .i64 (h 0))).setCell ⟨w.heap.size, 1, none⟩ (.int .i64 (h 1))).setCell ⟨w.heap.size, 2, none⟩ (.int .i64 (h 2))).setCell ⟨w.heap.size, 3, none⟩ (.int .i64 (h 3))).setCell ⟨w.heap.size, 4, none⟩ (.int .i64 (h 4))).setCell ⟨w.heap.size, 5, none⟩ (.int .i64 (h 5))).setCell ⟨w.heap.size, 6, none⟩ (.int .i64 (h 6))).setCell ⟨w.heap.size, 7, none⟩ (.int .i64 (h 7))).setCell ⟨w.heap.size, 8, none⟩ (.int .i64 (h 8))).setCell ⟨w.heap.size, 9, none⟩ (.int .i64 (h 9))).setCell ⟨w.heap.size, 10, none⟩ (.int .i64 (h 10))).setCell ⟨w.heap.size + 1, 0, none⟩ (.slice A n c)).setCell ⟨w.heap.size + 1, 1, none⟩ (.int .i64 x)) w.heap.size h ∧ FltAt (((((((((((((W.setCell ⟨w.heap.size, 0, none⟩ (.int .i64 (h 0))).setCell ⟨w.heap.size, 1, none⟩ (.int .i64 (h 1))).setCell ⟨w.heap.size, 2, none⟩ (.int .i64 (h 2))).setCell ⟨w.heap.size, 3, none⟩ (.int .i64 (h 3))).setCell ⟨w.heap.size, 4, none⟩ (.int .i64 (h 4))).setCell ⟨w.heap.size, 5, none⟩ (.int .i64 (h 5))).setCell ⟨w.heap.size, 6, none⟩ (.int .i64 (h 6))).setCell ⟨w.heap.size, 7, none⟩ (.int .i64 (h 7))).setCell ⟨w.heap.size, 8, none⟩ (.int .i64 (h 8))).setCell ⟨w.heap.size, 9, none⟩ (.int .i64 (h 9))).setCell ⟨w.heap.size, 10, none⟩ (.int .i64 (h 10))).setCell ⟨w.heap.size + 1, 0, none⟩ (.slice A n c)).setCell ⟨w.heap.size + 1, 1, none⟩ (.int .i64 x)) (w.heap.size + 1) (.slice A n c) (.int .i64 x) ∧ BadAt (((((((((((((W.setCell ⟨w.heap.size, 0, none⟩ (.int .i64 (h 0))).setCell ⟨w.heap.size, 1, none⟩ (.int .i64 (h 1))).setCell ⟨w.heap.size, 2, none⟩ (.int .i64 (h 2))).setCell ⟨w.heap.size, 3, none⟩ (.int .i64 (h 3))).setCell ⟨w.heap.size, 4, none⟩ (.int .i64 (h 4))).setCell ⟨w.heap.size, 5, none⟩ (.int .i64 (h 5))).setCell ⟨w.heap.size, 6, none⟩ (.int .i64 (h 6))).setCell ⟨w.heap.size, 7, none⟩ (.int .i64 (h 7))).setCell ⟨w.heap.size, 8, none⟩ (.int .i64 (h 8))).setCell ⟨w.heap.size, 9, none⟩ (.int .i64 (h 9))).setCell ⟨w.heap.size, 10, none⟩ (.int .i64 (h 10))).setCell ⟨w.heap.size + 1, 0, none⟩ (.slice A n c)).setCell ⟨w.heap.size + 1, 1, none⟩ (.int .i64 x)) (.agg #[.slice A n c, .int .i64 x]) no x ∧ Below w.heap.size w (((((((((((((W.setCell ⟨w.heap.size, 0, none⟩ (.int .i64 (h 0))).setCell ⟨w.heap.size, 1, none⟩ (.int .i64 (h 1))).setCell ⟨w.heap.size, 2, none⟩ (.int .i64 (h 2))).setCell ⟨w.heap.size, 3, none⟩ (.int .i64 (h 3))).setCell ⟨w.heap.size, 4, none⟩ (.int .i64 (h 4))).setCell ⟨w.heap.size, 5, none⟩ (.int .i64 (h 5))).setCell ⟨w.heap.size, 6, none⟩ (.int .i64 (h 6))).setCell ⟨w.heap.size, 7, none⟩ (.int .i64 (h 7))).setCell ⟨w.heap.size, 8, none⟩ (.int .i64 (h 8))).setCell ⟨w.heap.size, 9, none⟩ (.int .i64 (h 9))).setCell ⟨w.heap.size, 10, none⟩ (.int .i64 (h 10))).setCell ⟨w.heap.size + 1, 0, none⟩ (.slice A n c)).setCell ⟨w.heap.size + 1, 1, none⟩ (.int .i64 x)) := by
  have h1 := hs.res.store h
  have h2 : FltAt (((((((((((W.setCell ⟨w.heap.size, 0, none⟩ (.int .i64 (h 0))).setCell ⟨w.heap.size, 1, none⟩ (.int .i64 (h 1))).setCell ⟨w.heap.size, 2, none⟩ (.int .i64 (h 2))).setCell ⟨w.heap.size, 3, none⟩ (.int .i64 (h 3))).setCell ⟨w.heap.size, 4, none⟩ (.int .i64 (h 4))).setCell ⟨w.heap.size, 5, none⟩ (.int .i64 (h 5))).setCell ⟨w.heap.size, 6, none⟩ (.int .i64 (h 6))).setCell ⟨w.heap.size, 7, none⟩ (.int .i64 (h 7))).setCell ⟨w.heap.size, 8, none⟩ (.int .i64 (h 8))).setCell ⟨w.heap.size, 9, none⟩ (.int .i64 (h 9))).setCell ⟨w.heap.size, 10, none⟩ (.int .i64 (h 10))) (w.heap.size + 1) (.slice none 0 0) (.int .i64 0) := (sup_keep W w.heap.size h _ (by omega)).trans hs.flt
  refine ⟨two_other h1 (by omega) _ _, h2.store _ _, ⟨A, n, c, rfl, hI.newer hn fun k hk => ?_⟩, below_store2 (below_store hs.bel (Nat.le_refl _) _ _ _ _ _ _ _ _ _ _ _) (by omega) _ _⟩
  rw [two_keep _ (w.heap.size + 1) _ _ (B := w.heap.size + 2) (by omega) k hk, sup_keep _ _ _ _ (by omega)]

set_option maxRecDepth 100000 in
set_option maxHeartbeats 3200000 in
theorem ref11Super_any {B p : Nat} {v : Value} {L : List UInt8} {n : Nat} (w : World) (h : RImg w B p v (blks L n)) (hL : L.length = n * 256) :
    Calls Tryz.prog 11 #[.pointer (some ⟨p, 0, none⟩)] w fun e w' => ∃ f, e = .returned (.tuple #[supV (supF11 L n), f]) ∧ BadAt w' f 0 (supE11 L n) ∧ Below w.heap.size w w' := by
  have AT : Hid (∀ W x, RfS w W → Calls Tryz.prog 38 #[.int .i64 0, .int .i64 x] W fun e w' => ∃ A n c, e = .returned (.agg #[.slice A n c, .int .i64 x]) ∧ Ints w' A n c (atL 0 x) ∧ Newer (w.heap.size + 2) A ∧ RfS w w') := fun W x hW => (ref11At_any 0 x W).mono fun e w' ⟨A, n, c, h1, h2, h3, h4⟩ => ⟨A, n, c, h1, h2, h3.mono hW.low, hW.later h4⟩
  have IN : Hid (∀ W, RfS w W → Calls Tryz.prog 37 #[.pointer (some ⟨p, 0, none⟩), .int .i64 0, .int .i64 1] W fun e w' => ∃ A m c, e = .returned (.tuple #[.slice A m c, .int .i64 (inE11 L n 0 1)]) ∧ Bytes8 w' A m c (inB11 L n 0 1) ∧ RfS w w') := fun W hW => (ref11in_any 0 1 W (h.later hW.bel) hL).mono fun e w' ⟨A, m, c, h1, h2, h3⟩ => ⟨A, m, c, h1, h2, hW.later h3⟩
  have RD : Hid (∀ W A m c, RfS w W → Bytes8 W A m c (inB11 L n 0 1) → Calls Tryz.prog 39 #[.slice A m c] W fun e w' => e = .returned (.tuple #[supV (readS (inB11 L n 0 1)), .int .i64 (readE (inB11 L n 0 1))]) ∧ RfS w w') := fun W A m c hW hB => (refRead_any A m c _ W hB).mono fun e w' ⟨h1, h2⟩ => ⟨h1, hW.later h2⟩
  have HM : Hid (∀ W, Below w.heap.size w W → ∃ A c, n ≤ c ∧ c ≤ 9223372036854775807 ∧ W.cell? ⟨p, 0, none⟩ = some (.slice A n c)) := fun W hW => by
    obtain ⟨A, c, _, h2, h3, h4, _⟩ := (h.later hW).form
    rw [blks_length] at h2 h4
    exact ⟨A, c, h2, h3, h4⟩
  have hN0 := RfS.start w
  obtain ⟨X, hX⟩ : ∃ X, supE11 L n = X := ⟨_, rfl⟩
  obtain ⟨R, hR⟩ : ∃ R : Nat → Int, supF11 L n = R := ⟨_, rfl⟩
  rw [hX, hR]
  have key : (inE11 L n 0 1 ≠ 0 ∧ X = inE11 L n 0 1 ∧ R = fun _ => 0) ∨ (inE11 L n 0 1 = 0 ∧ readE (inB11 L n 0 1) ≠ 0 ∧ X = readE (inB11 L n 0 1) ∧ R = fun _ => 0) ∨ (inE11 L n 0 1 = 0 ∧ readE (inB11 L n 0 1) = 0 ∧ (n : Int) < readS (inB11 L n 0 1) 4 ∧ X = 2 ∧ R = fun _ => 0) ∨ (inE11 L n 0 1 = 0 ∧ readE (inB11 L n 0 1) = 0 ∧ ¬ (n : Int) < readS (inB11 L n 0 1) 4 ∧ X = 0 ∧ R = readS (inB11 L n 0 1)) := by
    unfold supF11 at hR
    rw [hX] at hR
    unfold supE11 at hX
    by_cases h1 : inE11 L n 0 1 = 0
    · rw [if_neg (fun h => h h1)] at hX
      by_cases h2 : readE (inB11 L n 0 1) = 0
      · rw [if_neg (fun h => h h2)] at hX
        by_cases h3 : (n : Int) < readS (inB11 L n 0 1) 4
        · rw [if_pos h3] at hX
          rw [← hX, if_neg (by decide)] at hR
          exact .inr (.inr (.inl ⟨h1, h2, h3, hX.symm, hR.symm⟩))
        · rw [if_neg h3] at hX
          rw [← hX, if_pos rfl] at hR
          exact .inr (.inr (.inr ⟨h1, h2, h3, hX.symm, hR.symm⟩))
      · rw [if_pos h2] at hX
        rw [← hX, if_neg h2] at hR
        exact .inr (.inl ⟨h1, h2, hX.symm, hR.symm⟩)
    · rw [if_pos h1] at hX
      rw [← hX, if_neg h1] at hR
      exact .inl ⟨h1, hX.symm, hR.symm⟩
  clear hX hR h hL
  simp only [supV, supC] at RD
  generalize inE11 L n 0 1 = e0 at *
  generalize inB11 L n 0 1 = b at *
  generalize readE b = x at *
  generalize readS b = f at *
  rcases key with ⟨h1, g1, g2⟩ | ⟨rfl, h1, g1, g2⟩ | ⟨rfl, rfl, h1, g1, g2⟩ | ⟨rfl, rfl, h1, g1, g2⟩
  · have hne : (e0 != 0) = true := by simpa using h1
    have HE := Lib.hid (And.intro g1 g2)
    clear h1 g1 g2
    go_enter Tryz.func11, Tryz.ntmps11
    go_wp2_with (first
      | (go_at_call 37; (with_reducible refine (IN.out _ hN0).mono ?_); rintro e w1 ⟨A1, m1, c1, rfl, hB1, hN1⟩; clear hB1)
      | (go_at_call 38; (with_reducible refine (AT.out _ _ hN1).mono ?_); rintro e w3 ⟨A3, n3, c3, rfl, hI3, hn3, hN3⟩; have HI3 := Lib.hid hI3; have HN3 := Lib.hid hn3; clear hI3 hn3; obtain ⟨⟨z0, z1, z2, z3, z4, z5, z6, z7, z8, z9, z10⟩, ⟨y0, y1, y2, y3, y4, y5, y6, y7, y8, y9, y10⟩, ⟨k0, k1⟩, l0, l1⟩ := hN3.facts))
    obtain ⟨d1, d2, d3, d4⟩ := hN3.done (fun _ => 0) HI3.out HN3.out
    refine bodyPost_ret (blk_res2 Tryz.results11 _ _ (a := ⟨w.heap.size, 0, none⟩) (b := ⟨w.heap.size + 1, 0, none⟩) rfl rfl d1.load d2.load) rfl ?_
    exact ⟨_, by rw [HE.out.2], by rw [HE.out.1]; exact d3, d4⟩
  · have hne : (x != 0) = true := by simpa using h1
    have HE := Lib.hid (And.intro g1 g2)
    clear h1 g1 g2
    go_enter Tryz.func11, Tryz.ntmps11
    go_wp2_with (first
      | (go_at_call 37; (with_reducible refine (IN.out _ hN0).mono ?_); rintro e w1 ⟨A1, m1, c1, rfl, hB1, hN1⟩; have HB1 := Lib.hid hB1; clear hB1)
      | (go_at_call 39; (with_reducible refine (RD.out _ _ _ _ hN1 HB1.out).mono ?_); rintro e w2 ⟨rfl, hN2⟩; have hN2' := hN2.later ((Below.refl w2.heap.size w2).alloc (Nat.le_refl _) (.cells #[.int .i64 (f 0), .int .i64 (f 1), .int .i64 (f 2), .int .i64 (f 3), .int .i64 (f 4), .int .i64 (f 5), .int .i64 (f 6), .int .i64 (f 7), .int .i64 (f 8), .int .i64 (f 9), .int .i64 (f 10)] 29)))
      | (go_at_call 38; (with_reducible refine (AT.out _ _ hN2').mono ?_); rintro e w3 ⟨A3, n3, c3, rfl, hI3, hn3, hN3⟩; have HI3 := Lib.hid hI3; have HN3 := Lib.hid hn3; clear hI3 hn3; obtain ⟨⟨z0, z1, z2, z3, z4, z5, z6, z7, z8, z9, z10⟩, ⟨y0, y1, y2, y3, y4, y5, y6, y7, y8, y9, y10⟩, ⟨k0, k1⟩, l0, l1⟩ := hN3.facts))
    obtain ⟨d1, d2, d3, d4⟩ := hN3.done (fun _ => 0) HI3.out HN3.out
    refine bodyPost_ret (blk_res2 Tryz.results11 _ _ (a := ⟨w.heap.size, 0, none⟩) (b := ⟨w.heap.size + 1, 0, none⟩) rfl rfl d1.load d2.load) rfl ?_
    exact ⟨_, by rw [HE.out.2], by rw [HE.out.1]; exact d3, d4⟩
  · have hd : decide ((n : Int) < f 4) = true := decide_eq_true h1
    have HE := Lib.hid (And.intro g1 g2)
    clear h1 g1 g2
    go_enter Tryz.func11, Tryz.ntmps11
    go_wp2_with (first
      | (go_at_call 37; (with_reducible refine (IN.out _ hN0).mono ?_); rintro e w1 ⟨A1, m1, c1, rfl, hB1, hN1⟩; have HB1 := Lib.hid hB1; clear hB1)
      | (go_at_call 39; (with_reducible refine (RD.out _ _ _ _ hN1 HB1.out).mono ?_); rintro e w2 ⟨rfl, hN2⟩))
    have hN2' := hN2.later ((Below.refl w2.heap.size w2).alloc (Nat.le_refl _) (.cells #[.int .i64 (f 0), .int .i64 (f 1), .int .i64 (f 2), .int .i64 (f 3), .int .i64 (f 4), .int .i64 (f 5), .int .i64 (f 6), .int .i64 (f 7), .int .i64 (f 8), .int .i64 (f 9), .int .i64 (f 10)] 29))
    have hS2 : SupAt (w2.alloc (.cells #[.int .i64 (f 0), .int .i64 (f 1), .int .i64 (f 2), .int .i64 (f 3), .int .i64 (f 4), .int .i64 (f 5), .int .i64 (f 6), .int .i64 (f 7), .int .i64 (f 8), .int .i64 (f 9), .int .i64 (f 10)] 29)) w2.heap.size f := heap_alloc_new w2 _
    obtain ⟨Am, cm, hm1, hm2, hm3⟩ := HM.out _ hN2'.bel
    clear hN0 hN1 hN2
    generalize w2.alloc (.cells #[.int .i64 (f 0), .int .i64 (f 1), .int .i64 (f 2), .int .i64 (f 3), .int .i64 (f 4), .int .i64 (f 5), .int .i64 (f 6), .int .i64 (f 7), .int .i64 (f 8), .int .i64 (f 9), .int .i64 (f 10)] 29) = w4 at *
    generalize w2.heap.size = r at *
    have q4 := hS2.cell (k := 4) (by omega)
    go_quiet (fail)
    have hN4 := hN2'.later (below_drewN (Below.refl _ _) nq)
    clear hN2' hS2 hm3 q4
    generalize w4.drewN nq = w5 at *
    go_wp2_with (first
      | (go_at_call 38; (with_reducible refine (AT.out _ _ hN4).mono ?_); rintro e w3 ⟨A3, n3, c3, rfl, hI3, hn3, hN3⟩; have HI3 := Lib.hid hI3; have HN3 := Lib.hid hn3; clear hI3 hn3; obtain ⟨⟨z0, z1, z2, z3, z4, z5, z6, z7, z8, z9, z10⟩, ⟨y0, y1, y2, y3, y4, y5, y6, y7, y8, y9, y10⟩, ⟨k0, k1⟩, l0, l1⟩ := hN3.facts))
    obtain ⟨d1, d2, d3, d4⟩ := hN3.done (fun _ => 0) HI3.out HN3.out
    refine bodyPost_ret (blk_res2 Tryz.results11 _ _ (a := ⟨w.heap.size, 0, none⟩) (b := ⟨w.heap.size + 1, 0, none⟩) rfl rfl d1.load d2.load) rfl ?_
    exact ⟨_, by rw [HE.out.2], by rw [HE.out.1]; exact d3, d4⟩
  · have hd : decide ((n : Int) < f 4) = false := decide_eq_false h1
    have HE := Lib.hid (And.intro g1 g2)
    clear h1 g1 g2
    go_enter Tryz.func11, Tryz.ntmps11
    go_wp2_with (first
      | (go_at_call 37; (with_reducible refine (IN.out _ hN0).mono ?_); rintro e w1 ⟨A1, m1, c1, rfl, hB1, hN1⟩; have HB1 := Lib.hid hB1; clear hB1)
      | (go_at_call 39; (with_reducible refine (RD.out _ _ _ _ hN1 HB1.out).mono ?_); rintro e w2 ⟨rfl, hN2⟩))
    have hN2' := hN2.later ((Below.refl w2.heap.size w2).alloc (Nat.le_refl _) (.cells #[.int .i64 (f 0), .int .i64 (f 1), .int .i64 (f 2), .int .i64 (f 3), .int .i64 (f 4), .int .i64 (f 5), .int .i64 (f 6), .int .i64 (f 7), .int .i64 (f 8), .int .i64 (f 9), .int .i64 (f 10)] 29))
    have hS2 : SupAt (w2.alloc (.cells #[.int .i64 (f 0), .int .i64 (f 1), .int .i64 (f 2), .int .i64 (f 3), .int .i64 (f 4), .int .i64 (f 5), .int .i64 (f 6), .int .i64 (f 7), .int .i64 (f 8), .int .i64 (f 9), .int .i64 (f 10)] 29)) w2.heap.size f := heap_alloc_new w2 _
    obtain ⟨Am, cm, hm1, hm2, hm3⟩ := HM.out _ hN2'.bel
    clear hN0 hN1 hN2
    generalize w2.alloc (.cells #[.int .i64 (f 0), .int .i64 (f 1), .int .i64 (f 2), .int .i64 (f 3), .int .i64 (f 4), .int .i64 (f 5), .int .i64 (f 6), .int .i64 (f 7), .int .i64 (f 8), .int .i64 (f 9), .int .i64 (f 10)] 29) = w4 at *
    generalize w2.heap.size = r at *
    have q4 := hS2.cell (k := 4) (by omega)
    go_quiet (fail)
    have hN3 := hN2'.later (below_drewN (Below.refl _ _) nq)
    have hS3 := hS2.later (below_drewN (Below.refl _ _) nq)
    clear hN2' hS2 hm3 q4
    generalize w4.drewN nq = w5 at *
    obtain ⟨⟨z0, z1, z2, z3, z4, z5, z6, z7, z8, z9, z10⟩, ⟨y0, y1, y2, y3, y4, y5, y6, y7, y8, y9, y10⟩, ⟨k0, k1⟩, l0, l1⟩ := hN3.facts
    obtain ⟨s0, s1, s2, s3, s4, s5, s6, s7, s8, s9, s10⟩ := hS3.cs
    go_wp2
    obtain ⟨d1, d2, d3, d4⟩ := hN3.done f (no := 0) (x := 0) (Ints.nil w5) (Newer.nil _)
    refine bodyPost_ret (blk_res2 Tryz.results11 _ _ (a := ⟨w.heap.size, 0, none⟩) (b := ⟨w.heap.size + 1, 0, none⟩) rfl rfl d1.load d2.load) rfl ?_
    exact ⟨_, by rw [HE.out.2], by rw [HE.out.1]; exact d3, d4⟩

/-- a node's variable and an error's, all below as it was -/
structure RfN (w W : World) : Prop where
  res : NodAt W w.heap.size 0 false (.slice none 0 0) (.slice none 0 0)
  flt : FltAt W (w.heap.size + 1) (.slice none 0 0) (.int .i64 0)
  bel : Below w.heap.size w W
theorem RfN.later {w W W' : World} (h : RfN w W) (hb : Below W.heap.size W W') : RfN w W' := ⟨h.res.later hb, h.flt.later hb, h.bel.trans (hb.mono h.bel.size)⟩
theorem RfN.low {w W : World} (h : RfN w W) : w.heap.size + 2 ≤ W.heap.size := by have := block_lt h.flt; omega
theorem RfN.facts {w W : World} (h : RfN w W) : NodC4 W w.heap.size 0 false (.slice none 0 0) (.slice none 0 0) ∧ FltC2 W (w.heap.size + 1) (.slice none 0 0) (.int .i64 0) := ⟨h.res.cs, h.flt.cs⟩
theorem RfN.start (w : World) : RfN w ((w.alloc (.cells #[.int .i64 0, .bool false, .slice none 0 0, .slice none 0 0] 41)).alloc (.cells #[.slice none 0 0, .int .i64 0] 36)) := by
  obtain ⟨h1, h2, h3⟩ := two_new w (.cells #[.int .i64 0, .bool false, .slice none 0 0, .slice none 0 0] 41) (.cells #[.slice none 0 0, .int .i64 0] 36)
  exact ⟨h1, h2, h3⟩
theorem RfN.done {w W : World} (hs : RfN w W) (tree : Int) (leaf : Bool) {A5 : Option Addr} {n5 c5 : Nat} {A6 : Option Addr} {n6 c6 : Nat} {ks : List Int} {vs : List (List UInt8)} (hN : NodIn W ⟨tree, leaf, ks, vs⟩ A5 n5 c5 A6 n6 c6) (h5 : Newer (w.heap.size + 2) A5) (h6 : Newer (w.heap.size + 2) A6) {A : Option Addr} {n c : Nat} {no x : Int} (hI : Ints W A n c (atL no x)) (hn : Newer (w.heap.size + 2) A) :
    NodAt ((((((W.setCell ⟨w.heap.size, 0, none⟩ (.int .i64 tree)).setCell ⟨w.heap.size, 1, none⟩ (.bool leaf)).setCell ⟨w.heap.size, 2, none⟩ (.slice A5 n5 c5)).setCell ⟨w.heap.size, 3, none⟩ (.slice A6 n6 c6)).setCell ⟨w.heap.size + 1, 0, none⟩ (.slice A n c)).setCell ⟨w.heap.size + 1, 1, none⟩ (.int .i64 x)) w.heap.size tree leaf (.slice A5 n5 c5) (.slice A6 n6 c6) ∧ FltAt ((((((W.setCell ⟨w.heap.size, 0, none⟩ (.int .i64 tree)).setCell ⟨w.heap.size, 1, none⟩ (.bool leaf)).setCell ⟨w.heap.size, 2, none⟩ (.slice A5 n5 c5)).setCell ⟨w.heap.size, 3, none⟩ (.slice A6 n6 c6)).setCell ⟨w.heap.size + 1, 0, none⟩ (.slice A n c)).setCell ⟨w.heap.size + 1, 1, none⟩ (.int .i64 x)) (w.heap.size + 1) (.slice A n c) (.int .i64 x) ∧ NodIn ((((((W.setCell ⟨w.heap.size, 0, none⟩ (.int .i64 tree)).setCell ⟨w.heap.size, 1, none⟩ (.bool leaf)).setCell ⟨w.heap.size, 2, none⟩ (.slice A5 n5 c5)).setCell ⟨w.heap.size, 3, none⟩ (.slice A6 n6 c6)).setCell ⟨w.heap.size + 1, 0, none⟩ (.slice A n c)).setCell ⟨w.heap.size + 1, 1, none⟩ (.int .i64 x)) ⟨tree, leaf, ks, vs⟩ A5 n5 c5 A6 n6 c6 ∧ BadAt ((((((W.setCell ⟨w.heap.size, 0, none⟩ (.int .i64 tree)).setCell ⟨w.heap.size, 1, none⟩ (.bool leaf)).setCell ⟨w.heap.size, 2, none⟩ (.slice A5 n5 c5)).setCell ⟨w.heap.size, 3, none⟩ (.slice A6 n6 c6)).setCell ⟨w.heap.size + 1, 0, none⟩ (.slice A n c)).setCell ⟨w.heap.size + 1, 1, none⟩ (.int .i64 x)) (.agg #[.slice A n c, .int .i64 x]) no x ∧ Below w.heap.size w ((((((W.setCell ⟨w.heap.size, 0, none⟩ (.int .i64 tree)).setCell ⟨w.heap.size, 1, none⟩ (.bool leaf)).setCell ⟨w.heap.size, 2, none⟩ (.slice A5 n5 c5)).setCell ⟨w.heap.size, 3, none⟩ (.slice A6 n6 c6)).setCell ⟨w.heap.size + 1, 0, none⟩ (.slice A n c)).setCell ⟨w.heap.size + 1, 1, none⟩ (.int .i64 x)) := by
  have h1 := hs.res.store tree leaf (.slice A5 n5 c5) (.slice A6 n6 c6)
  have h2 : FltAt ((((W.setCell ⟨w.heap.size, 0, none⟩ (.int .i64 tree)).setCell ⟨w.heap.size, 1, none⟩ (.bool leaf)).setCell ⟨w.heap.size, 2, none⟩ (.slice A5 n5 c5)).setCell ⟨w.heap.size, 3, none⟩ (.slice A6 n6 c6)) (w.heap.size + 1) (.slice none 0 0) (.int .i64 0) := four_other hs.flt (by omega) _ _ _ _
  have hk : ∀ k, w.heap.size + 2 ≤ k → ((((((W.setCell ⟨w.heap.size, 0, none⟩ (.int .i64 tree)).setCell ⟨w.heap.size, 1, none⟩ (.bool leaf)).setCell ⟨w.heap.size, 2, none⟩ (.slice A5 n5 c5)).setCell ⟨w.heap.size, 3, none⟩ (.slice A6 n6 c6)).setCell ⟨w.heap.size + 1, 0, none⟩ (.slice A n c)).setCell ⟨w.heap.size + 1, 1, none⟩ (.int .i64 x)).heap[k]? = W.heap[k]? := fun k hk => by
    rw [two_keep _ (w.heap.size + 1) _ _ (B := w.heap.size + 2) (by omega) k hk, four_keep _ w.heap.size _ _ _ _ (B := w.heap.size + 1) (by omega) k (by omega)]
  exact ⟨two_other h1 (by omega) _ _, h2.store _ _, hN.newer h5 h6 hk, ⟨A, n, c, rfl, hI.newer hn hk⟩, below_store2 (below_store7 hs.bel (Nat.le_refl _) _ _ _ _) (by omega) _ _⟩

set_option maxRecDepth 100000 in
set_option maxHeartbeats 3200000 in
theorem ref11Node_any {B p : Nat} {v : Value} {L : List UInt8} {n : Nat} (no tr : Int) (w : World) (h : RImg w B p v (blks L n)) (hL : L.length = n * 256) :
    Calls Tryz.prog 13 #[.pointer (some ⟨p, 0, none⟩), .int .i64 no, .int .i64 tr] w fun e w' => ∃ f A5 n5 c5 A6 n6 c6, e = .returned (.tuple #[nodV (nodN11 L n no tr) A5 n5 c5 A6 n6 c6, f]) ∧ NodIn w' (nodN11 L n no tr) A5 n5 c5 A6 n6 c6 ∧ BadAt w' f no (nodE11 L n no tr) ∧ Below w.heap.size w w' := by
  have AT : Hid (∀ W x, RfN w W → Calls Tryz.prog 38 #[.int .i64 no, .int .i64 x] W fun e w' => ∃ A n c, e = .returned (.agg #[.slice A n c, .int .i64 x]) ∧ Ints w' A n c (atL no x) ∧ Newer (w.heap.size + 2) A ∧ RfN w w') := fun W x hW => (ref11At_any no x W).mono fun e w' ⟨A, n, c, h1, h2, h3, h4⟩ => ⟨A, n, c, h1, h2, h3.mono hW.low, hW.later h4⟩
  have IN : Hid (∀ W, RfN w W → Calls Tryz.prog 37 #[.pointer (some ⟨p, 0, none⟩), .int .i64 no, .int .i64 2] W fun e w' => ∃ A m c, e = .returned (.tuple #[.slice A m c, .int .i64 (inE11 L n no 2)]) ∧ Bytes8 w' A m c (inB11 L n no 2) ∧ RfN w w') := fun W hW => (ref11in_any no 2 W (h.later hW.bel) hL).mono fun e w' ⟨A, m, c, h1, h2, h3⟩ => ⟨A, m, c, h1, h2, hW.later h3⟩
  have RD : Hid (∀ W A m c, RfN w W → Bytes8 W A m c (inB11 L n no 2) → Calls Tryz.prog 43 #[.slice A m c] W fun e w' => ∃ A5 n5 c5 A6 n6 c6, e = .returned (.tuple #[nodV (readN (inB11 L n no 2)) A5 n5 c5 A6 n6 c6, .int .i64 (readNE (inB11 L n no 2))]) ∧ NodIn w' (readN (inB11 L n no 2)) A5 n5 c5 A6 n6 c6 ∧ RfN w w' ∧ Newer (w.heap.size + 2) A5 ∧ Newer (w.heap.size + 2) A6) := fun W A m c hW hB => (refRead_any7F W A m c _ hB).mono fun e w' ⟨A5, n5, c5, A6, n6, c6, h1, h2, h3, h4, h5⟩ => ⟨A5, n5, c5, A6, n6, c6, h1, h2, hW.later h3, h4.mono hW.low, h5.mono hW.low⟩
  have hN0 := RfN.start w
  obtain ⟨X, hX⟩ : ∃ X, nodE11 L n no tr = X := ⟨_, rfl⟩
  obtain ⟨R, hR⟩ : ∃ R : Nod, nodN11 L n no tr = R := ⟨_, rfl⟩
  rw [hX, hR]
  have key : (inE11 L n no 2 ≠ 0 ∧ X = inE11 L n no 2 ∧ R = Nod.zero) ∨ (inE11 L n no 2 = 0 ∧ readNE (inB11 L n no 2) ≠ 0 ∧ X = readNE (inB11 L n no 2) ∧ R = Nod.zero) ∨ (inE11 L n no 2 = 0 ∧ readNE (inB11 L n no 2) = 0 ∧ (tr ≠ 0 ∧ (readN (inB11 L n no 2)).tree ≠ tr) ∧ X = 6 ∧ R = Nod.zero) ∨ (inE11 L n no 2 = 0 ∧ readNE (inB11 L n no 2) = 0 ∧ (tr = 0 ∨ (tr ≠ 0 ∧ (readN (inB11 L n no 2)).tree = tr)) ∧ X = 0 ∧ R = readN (inB11 L n no 2)) := by
    unfold nodN11 at hR
    rw [hX] at hR
    unfold nodE11 at hX
    by_cases h1 : inE11 L n no 2 = 0
    · rw [if_neg (fun h => h h1)] at hX
      by_cases h2 : readNE (inB11 L n no 2) = 0
      · rw [if_neg (fun h => h h2)] at hX
        by_cases h3 : tr ≠ 0 ∧ (readN (inB11 L n no 2)).tree ≠ tr
        · rw [if_pos h3] at hX
          rw [← hX, if_neg (by decide)] at hR
          exact .inr (.inr (.inl ⟨h1, h2, h3, hX.symm, hR.symm⟩))
        · rw [if_neg h3] at hX
          rw [← hX, if_pos rfl] at hR
          refine .inr (.inr (.inr ⟨h1, h2, ?_, hX.symm, hR.symm⟩))
          by_cases h4 : tr = 0
          · exact .inl h4
          · exact .inr ⟨h4, Classical.byContradiction fun h5 => h3 ⟨h4, h5⟩⟩
      · rw [if_pos h2] at hX
        rw [← hX, if_neg h2] at hR
        exact .inr (.inl ⟨h1, h2, hX.symm, hR.symm⟩)
    · rw [if_pos h1] at hX
      rw [← hX, if_neg h1] at hR
      exact .inl ⟨h1, hX.symm, hR.symm⟩
  clear hX hR h hL
  generalize inE11 L n no 2 = e0 at *
  generalize inB11 L n no 2 = b at *
  generalize readNE b = x at *
  generalize readN b = nd at *
  obtain ⟨tree, leaf, ks, vs⟩ := nd
  simp only [nodV] at RD
  rcases key with ⟨h1, g1, g2⟩ | ⟨rfl, h1, g1, g2⟩ | ⟨rfl, rfl, ⟨h1, h2⟩, g1, g2⟩ | ⟨rfl, rfl, h1, g1, g2⟩
  · have hne : (e0 != 0) = true := by simpa using h1
    have HE := Lib.hid (And.intro g1 g2)
    clear h1 g1 g2
    go_enter Tryz.func13, Tryz.ntmps13
    go_wp2_with (first
      | (go_at_call 37; (with_reducible refine (IN.out _ hN0).mono ?_); rintro e w1 ⟨A1, m1, c1, rfl, hB1, hN1⟩; clear hB1)
      | (go_at_call 38; (with_reducible refine (AT.out _ _ hN1).mono ?_); rintro e w3 ⟨A3, n3, c3, rfl, hI3, hn3, hN3⟩; have HI3 := Lib.hid hI3; have HN3 := Lib.hid hn3; clear hI3 hn3; obtain ⟨⟨⟨z0, z1, z2, z3⟩, y0, y1, y2, y3⟩, ⟨k0, k1⟩, l0, l1⟩ := hN3.facts))
    obtain ⟨d1, d2, d3, d4, d5⟩ := hN3.done 0 false (NodIn.zero w3) (Newer.nil _) (Newer.nil _) HI3.out HN3.out
    refine bodyPost_ret (blk_res2 Tryz.results13 _ _ (a := ⟨w.heap.size, 0, none⟩) (b := ⟨w.heap.size + 1, 0, none⟩) rfl rfl d1.load d2.load) rfl ?_
    exact ⟨_, none, 0, 0, none, 0, 0, by rw [HE.out.2]; rfl, by rw [HE.out.2]; exact d3, by rw [HE.out.1]; exact d4, d5⟩
  · have hne : (x != 0) = true := by simpa using h1
    have HE := Lib.hid (And.intro g1 g2)
    clear h1 g1 g2
    go_enter Tryz.func13, Tryz.ntmps13
    go_wp2_with (first
      | (go_at_call 37; (with_reducible refine (IN.out _ hN0).mono ?_); rintro e w1 ⟨A1, m1, c1, rfl, hB1, hN1⟩; have HB1 := Lib.hid hB1; clear hB1)
      | (go_at_call 43; (with_reducible refine (RD.out _ _ _ _ hN1 HB1.out).mono ?_); rintro e w2 ⟨A5, n5, c5, A6, n6, c6, rfl, hI2, hN2, hn5, hn6⟩; have hN2' := hN2.later ((Below.refl w2.heap.size w2).alloc (Nat.le_refl _) (.cells #[.int .i64 tree, .bool leaf, .slice A5 n5 c5, .slice A6 n6 c6] 41)); clear hI2 hn5 hn6)
      | (go_at_call 38; (with_reducible refine (AT.out _ _ hN2').mono ?_); rintro e w3 ⟨A3, n3, c3, rfl, hI3, hn3, hN3⟩; have HI3 := Lib.hid hI3; have HN3 := Lib.hid hn3; clear hI3 hn3; obtain ⟨⟨⟨z0, z1, z2, z3⟩, y0, y1, y2, y3⟩, ⟨k0, k1⟩, l0, l1⟩ := hN3.facts))
    obtain ⟨d1, d2, d3, d4, d5⟩ := hN3.done 0 false (NodIn.zero w3) (Newer.nil _) (Newer.nil _) HI3.out HN3.out
    refine bodyPost_ret (blk_res2 Tryz.results13 _ _ (a := ⟨w.heap.size, 0, none⟩) (b := ⟨w.heap.size + 1, 0, none⟩) rfl rfl d1.load d2.load) rfl ?_
    exact ⟨_, none, 0, 0, none, 0, 0, by rw [HE.out.2]; rfl, by rw [HE.out.2]; exact d3, by rw [HE.out.1]; exact d4, d5⟩
  · have hn1 : (tr != 0) = true := by simpa using h1
    have hn2 : (tree != tr) = true := by simpa using h2
    have HE := Lib.hid (And.intro g1 g2)
    clear h1 h2 g1 g2
    go_enter Tryz.func13, Tryz.ntmps13
    go_wp2_with (first
      | (go_at_call 37; (with_reducible refine (IN.out _ hN0).mono ?_); rintro e w1 ⟨A1, m1, c1, rfl, hB1, hN1⟩; have HB1 := Lib.hid hB1; clear hB1)
      | (go_at_call 43; (with_reducible refine (RD.out _ _ _ _ hN1 HB1.out).mono ?_); rintro e w2 ⟨A5, n5, c5, A6, n6, c6, rfl, hI2, hN2, hn5, hn6⟩; have hN2' := hN2.later ((Below.refl w2.heap.size w2).alloc (Nat.le_refl _) (.cells #[.int .i64 tree, .bool leaf, .slice A5 n5 c5, .slice A6 n6 c6] 41)); clear hI2 hn5 hn6)
      | (go_at_call 38; (with_reducible refine (AT.out _ _ hN2').mono ?_); rintro e w3 ⟨A3, n3, c3, rfl, hI3, hn3, hN3⟩; have HI3 := Lib.hid hI3; have HN3 := Lib.hid hn3; clear hI3 hn3; obtain ⟨⟨⟨z0, z1, z2, z3⟩, y0, y1, y2, y3⟩, ⟨k0, k1⟩, l0, l1⟩ := hN3.facts))
    obtain ⟨d1, d2, d3, d4, d5⟩ := hN3.done 0 false (NodIn.zero w3) (Newer.nil _) (Newer.nil _) HI3.out HN3.out
    refine bodyPost_ret (blk_res2 Tryz.results13 _ _ (a := ⟨w.heap.size, 0, none⟩) (b := ⟨w.heap.size + 1, 0, none⟩) rfl rfl d1.load d2.load) rfl ?_
    exact ⟨_, none, 0, 0, none, 0, 0, by rw [HE.out.2]; rfl, by rw [HE.out.2]; exact d3, by rw [HE.out.1]; exact d4, d5⟩
  · have HE := Lib.hid (And.intro g1 g2)
    clear g1 g2
    rcases h1 with rfl | ⟨h1, rfl⟩
    all_goals try (have hn1 : (tree != 0) = true := by simpa using h1)
    all_goals try clear h1
    all_goals go_enter Tryz.func13, Tryz.ntmps13
    all_goals go_wp2_with (first
      | (go_at_call 37; (with_reducible refine (IN.out _ hN0).mono ?_); rintro e w1 ⟨A1, m1, c1, rfl, hB1, hN1⟩; have HB1 := Lib.hid hB1; clear hB1)
      | (go_at_call 43; (with_reducible refine (RD.out _ _ _ _ hN1 HB1.out).mono ?_); rintro e w2 ⟨A5, n5, c5, A6, n6, c6, rfl, hI2, hN2, hn5, hn6⟩; have HN5 := Lib.hid hn5; have HN6 := Lib.hid hn6; have HI2 := Lib.hid (hI2.below ((Below.refl w2.heap.size w2).alloc (Nat.le_refl _) (.cells #[.int .i64 tree, .bool leaf, .slice A5 n5 c5, .slice A6 n6 c6] 41))); have hN3 := hN2.later ((Below.refl w2.heap.size w2).alloc (Nat.le_refl _) (.cells #[.int .i64 tree, .bool leaf, .slice A5 n5 c5, .slice A6 n6 c6] 41)); clear hI2 hn5 hn6; obtain ⟨⟨⟨z0, z1, z2, z3⟩, y0, y1, y2, y3⟩, ⟨k0, k1⟩, l0, l1⟩ := hN3.facts))
    all_goals obtain ⟨d1, d2, d3, d4, d5⟩ := hN3.done tree leaf HI2.out HN5.out HN6.out (no := no) (x := 0) (Ints.nil _) (Newer.nil _)
    all_goals refine bodyPost_ret (blk_res2 Tryz.results13 _ _ (a := ⟨w.heap.size, 0, none⟩) (b := ⟨w.heap.size + 1, 0, none⟩) rfl rfl d1.load d2.load) rfl ?_
    all_goals exact ⟨_, A5, n5, c5, A6, n6, c6, by rw [HE.out.2]; rfl, by rw [HE.out.2]; exact d3, by rw [HE.out.1]; exact d4, d5⟩

end Go.Proofs.YtbeobbanppkmhaaGreatDoor

/-
  Layer 11: Write, the program's and the reference's.
-/
namespace Go.Proofs.YtbeobbanppkmhaaGreatDoor
open Go.RowKit
set_option linter.unusedVariables false
set_option linter.unusedSimpArgs false

theorem grown_below {w w' : World} (hb : Below w.heap.size w w') (r : Option Nat) : w.grownBy w' r := ⟨hb.os, hb.tape, hb.output, hb.size, fun k hk _ => hb.block k hk⟩
theorem grown_kept {w w' : World} {g : Nat} (hk : Kept g w w') : w.grownBy w' (some g) := ⟨hk.os, hk.tape, hk.output, by rw [hk.size]; exact Nat.le_refl _, fun k _ hne => hk.block k (fun e => hne (by rw [e]))⟩
theorem grown_trans {a b c : World} {r : Option Nat} (h : a.grownBy b r) (k : b.grownBy c r) : a.grownBy c r :=
  ⟨k.os.trans h.os, k.tape.trans h.tape, k.output.trans h.output, Nat.le_trans h.size k.size, fun i hi hne => (k.block i (Nat.lt_of_lt_of_le hi h.size) hne).trans (h.block i hi hne)⟩
theorem below_grown {w w' : World} {B g : Nat} (h : w.grownBy w' (some g)) (hB : B ≤ g) (hs : B ≤ w.heap.size) : Below B w w' :=
  ⟨h.os, h.tape, h.output, h.size, fun k hk => h.block k (by omega) (fun e => by injection e; omega)⟩

theorem wrE11_seal {n : Nat} {no kind : Int} {l : List UInt8} (h : sealE kind no l.length ≠ 0) : wrE11 n no kind l = sealE kind no l.length := by rw [wrE11, if_pos h]
theorem wrE11_ok {n : Nat} {no kind : Int} {l : List UInt8} (h : sealE kind no l.length = 0) : wrE11 n no kind l = if outB n no = true then 3 else 0 := by rw [wrE11, if_neg (fun e => e h)]
theorem wrL11_bad {L : List UInt8} {n : Nat} {no kind : Int} {l : List UInt8} (h : wrE11 n no kind l ≠ 0) : wrL11 L n no kind l = L := by rw [wrL11, if_neg h]
theorem wrL11_good {L : List UInt8} {n : Nat} {no kind : Int} {l : List UInt8} (h : wrE11 n no kind l = 0) : wrL11 L n no kind l = splice L (no.toNat * 256) (sealB kind no l) := by rw [wrL11, if_pos h]

/-- a sealed block, written by image's Write -/
theorem imgWrite_any {w : World} {B p g n : Nat} {L l : List UInt8} (no : Int) (A : Option Addr) (c : Nat) (h : Img w B p g L) (hL : L.length = n * 256) (hl : Bytes8 w A 256 c l) :
    Calls Tryz.prog 53 #[.pointer (some ⟨p, 0, none⟩), .int .i64 no, .slice A 256 c] w fun e w' => e = .returned (.int .i64 (if outB n no = true then 3 else 0)) ∧ Img w' B p g (if outB n no = true then L else splice L (no.toNat * 256) l) ∧ w.grownBy w' (some g) := by
  cases ho : outB n no with
  | true =>
    refine (Write_bad p no n A 256 c w (Blocks_img w h hL) (outB_iff.1 ho)).mono ?_
    rintro e w' ⟨rfl, rfl⟩
    exact ⟨rfl, by simpa using h, grown_below (Below.refl _ _) _⟩
  | false =>
    obtain ⟨h0, h1⟩ := outB_not.1 ho
    obtain ⟨k, rfl⟩ := Int.eq_ofNat_of_zero_le h0
    refine (Write_img k A c w h hL (by omega) hl).mono ?_
    rintro e w' ⟨rfl, hk, hi⟩
    exact ⟨rfl, by simpa using hi, grown_kept hk⟩

set_option maxRecDepth 100000 in
set_option maxHeartbeats 1600000 in
theorem blockWrite_bad {w : World} (pv : Value) (no kind : Int) {A : Option Addr} {m c : Nat} {l : List UInt8} (hB : Bytes8 w A m c l) (hs : sealE kind no l.length ≠ 0) :
    Calls Tryz.prog 22 #[pv, .int .i64 no, .int .i64 kind, .slice A m c] w fun e w' => ∃ v, e = .returned v ∧ ErrAt w' v no (sealE kind no l.length) ∧ Below w.heap.size w w' := by
  have S := Lib.hid (Seal_any kind no A m c l w hB)
  have AT := Lib.hid (fun x W => bat_any no x W)
  rw [hB.len] at hs ⊢
  have hne : (sealE kind no m == 0) = false := by simpa using hs
  clear hB
  generalize sealE kind no m = x at *
  generalize sealB kind no l = bb at *
  go_enter Tryz.func22, Tryz.ntmps22
  go_wp2_with (first
    | (go_at_call 52; (with_reducible refine (S.out).mono ?_); rintro e w1 ⟨A1, m1, c1, rfl, hB1, hb1⟩; clear hB1)
    | (go_at_call 54; (with_reducible refine (AT.out _ _).mono ?_); rintro e w4 ⟨v, rfl, hv, hb4⟩; have HV := Lib.hid hv; clear hv))
  go_ret
  exact ⟨v, rfl, HV.out, hb1.trans (hb4.mono hb1.size)⟩

/-! what image's Write may do: the error, and what it leaves, which bears what is laid behind -/
set_option maxRecDepth 100000 in
set_option maxHeartbeats 1600000 in
theorem blockWrite_of {w : World} (pv : Value) (no kind y : Int) {A : Option Addr} {m c : Nat} {l : List UInt8} (hB : Bytes8 w A m c l) (hs : sealE kind no l.length = 0) (r : Option Nat) (Q : World → Prop) (hQ : ∀ W W', Below W.heap.size W W' → Q W → Q W')
    (WR : ∀ W A c, Below w.heap.size w W → Bytes8 W A 256 c (sealB kind no l) → Calls Tryz.prog 53 #[pv, .int .i64 no, .slice A 256 c] W fun e w' => e = .returned (.int .i64 y) ∧ Q w' ∧ W.grownBy w' r) :
    Calls Tryz.prog 22 #[pv, .int .i64 no, .int .i64 kind, .slice A m c] w fun e w' => ∃ v, e = .returned v ∧ ErrAt w' v no y ∧ Q w' ∧ w.grownBy w' r := by
  have S : Hid (Calls Tryz.prog 52 #[.int .i64 kind, .int .i64 no, .slice A m c] w fun e w' => ∃ g, e = .returned (.tuple #[.slice (some ⟨g, 0, none⟩) 256 256, .int .i64 0]) ∧ Bytes8 w' (some ⟨g, 0, none⟩) 256 256 (sealB kind no l) ∧ Below w.heap.size w w') :=
    (Seal_good kind no A m c l w hB (by rw [← hB.len]; exact hs)).mono fun e w' ⟨g, h1, h2, h3⟩ => ⟨g, h1, h2.bytes (n := 256) (sealB_length hs) (by omega), h3⟩
  have W2 := Lib.hid WR
  have HQ := Lib.hid hQ
  have AT := Lib.hid (fun x W => bat_any no x W)
  clear hB hs WR hQ
  generalize sealB kind no l = bb at *
  go_enter Tryz.func22, Tryz.ntmps22
  go_wp2_with (first
    | (go_at_call 52; (with_reducible refine (S.out).mono ?_); rintro e w1 ⟨g1, rfl, hB1, hb1⟩; have HB1 := Lib.hid hB1; clear hB1)
    | (go_at_call 53; (with_reducible refine (W2.out _ _ _ hb1 HB1.out).mono ?_); rintro e w2 ⟨rfl, hq, hg⟩; have HQ2 := Lib.hid hq; have HG := Lib.hid hg; clear hq hg)
    | (go_at_call 54; (with_reducible refine (AT.out _ _).mono ?_); rintro e w4 ⟨v, rfl, hv, hb4⟩; have HV := Lib.hid hv; clear hv))
  go_ret
  exact ⟨v, rfl, HV.out, HQ.out _ _ hb4 HQ2.out, grown_trans (grown_trans (grown_below hb1 _) HG.out) (grown_below hb4 _)⟩

/-- of an image -/
theorem blockWrite_any {w : World} {B p g n : Nat} {L : List UInt8} (no kind : Int) (h : Img w B p g L) (hL : L.length = n * 256) {A : Option Addr} {m c : Nat} {l : List UInt8} (hB : Bytes8 w A m c l) :
    Calls Tryz.prog 22 #[.pointer (some ⟨p, 0, none⟩), .int .i64 no, .int .i64 kind, .slice A m c] w fun e w' => ∃ v, e = .returned v ∧ ErrAt w' v no (wrE11 n no kind l) ∧ Img w' B p g (wrL11 L n no kind l) ∧ w.grownBy w' (some g) := by
  by_cases hs : sealE kind no l.length = 0
  · have := blockWrite_of (.pointer (some ⟨p, 0, none⟩)) no kind (if outB n no = true then 3 else 0) hB hs (some g) (fun W => Img W B p g (if outB n no = true then L else splice L (no.toNat * 256) (sealB kind no l))) (fun W W' hb hi => hi.later hb) (fun W A c hW hb => imgWrite_any no A c (h.later hW) hL hb)
    rw [wrE11_ok hs]
    cases ho : outB n no with
    | true =>
      rw [wrL11_bad (by rw [wrE11_ok hs, ho]; decide)]
      simp only [ho] at this
      exact this
    | false =>
      rw [wrL11_good (by rw [wrE11_ok hs, ho]; rfl)]
      simp only [ho] at this
      exact this
  · rw [wrL11_bad (by rw [wrE11_seal hs]; exact hs), wrE11_seal hs]
    exact (blockWrite_bad _ no kind hB hs).mono fun e w' ⟨v, h1, h2, h3⟩ => ⟨v, h1, h2, h.later h3, grown_below h3 _⟩
/-! ### the reference's -/
/-- an error's variable; all stands as it stood but block g -/
structure BxG (w W : World) (g : Nat) : Prop where
  flt : FltAt W w.heap.size (.slice none 0 0) (.int .i64 0)
  gr : w.grownBy W (some g)
theorem BxG.later {w W W' : World} {g : Nat} (h : BxG w W g) (hb : Below W.heap.size W W') : BxG w W' g := ⟨h.flt.later hb, grown_trans h.gr (grown_below hb _)⟩
theorem BxG.start (w : World) (g : Nat) : BxG w (w.alloc (.cells #[.slice none 0 0, .int .i64 0] 36)) g := ⟨FltAt.new w _ _, grown_below ((Below.refl _ _).alloc (Nat.le_refl _) _) _⟩
theorem RImg.grown {w w' : World} {B p g : Nat} {v : Value} {L : List (List UInt8)} (h : RImg w B p v L) (hk : w.grownBy w' (some g)) (hg : g < p) : RImg w' B p v L := by
  refine ⟨h.bp, (hk.block p h.plt (fun e => by injection e; omega)).trans h.hp, h.own.1, ?_⟩
  rcases h.own.2 with hn | ⟨g2, cap, cur, hv, hg2, hh, rest⟩
  · exact .inl hn
  · exact .inr ⟨g2, cap, cur, hv, hg2, (hk.block g2 (block_lt hh) (fun e => by injection e; omega)).trans hh, rest⟩
theorem RImg.box {w : World} {B p : Nat} {v : Value} {L : List (List UInt8)} (h : RImg w B p v L) {q : Nat} {a b : Value} (hf : FltAt w q a b) (c d : Value) : RImg ((w.setCell ⟨q, 0, none⟩ c).setCell ⟨q, 1, none⟩ d) B p v L := by
  have hp : p ≠ q := fun e => by
    have := h.hp
    rw [e, show w.heap[q]? = _ from hf] at this
    injection this with this
    injection this with _ e2 _
    exact absurd e2 (by decide)
  refine ⟨h.bp, two_other h.hp hp _ _, h.own.1, ?_⟩
  rcases h.own.2 with hn | ⟨g2, cap, cur, hv, hg2, hh, rest⟩
  · exact .inl hn
  · have hne : g2 ≠ q := fun e => by
      rw [e, show w.heap[q]? = _ from hf] at hh
      injection hh with hh
      injection hh with _ e2 _
      exact absurd e2 (by decide)
    exact .inr ⟨g2, cap, cur, hv, hg2, two_other hh hne _ _, rest⟩

end Go.Proofs.YtbeobbanppkmhaaGreatDoor
