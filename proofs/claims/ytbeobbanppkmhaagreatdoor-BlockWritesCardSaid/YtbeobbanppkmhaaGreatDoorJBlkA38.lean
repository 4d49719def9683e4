/-
  Joined: BlkR, BlkW.
-/
import Derived.Test.YtbeobbanppkmhaaGreatDoorJBlkA37
import Derived.Test.YtbeobbanppkmhaaGreatDoorJBlkA24
import Derived.Test.YtbeobbanppkmhaaGreatDoorJBlkA23
import Derived.Test.YtbeobbanppkmhaaGreatDoorJBlkA19
import Derived.Test.YtbeobbanppkmhaaGreatDoorJBlkA18
import Derived.Test.YtbeobbanppkmhaaGreatDoorJBlkA35
import Derived.Test.YtbeobbanppkmhaaGreatDoorJBlkA02
import Derived.Test.YtbeobbanppkmhaaGreatDoorJBlkA15
/-
  Layer 11's reference: At, in, Bits, Index.
-/
namespace Go.Proofs.YtbeobbanppkmhaaGreatDoor
open Go.RowKit
set_option linter.unusedVariables false
set_option linter.unusedSimpArgs false

set_option maxRecDepth 100000 in
set_option maxHeartbeats 4000000 in
theorem refAt_newer (b : Int) {A : Option Addr} {n c : Nat} {bs : List Int} {code : Int} (hc : code ≠ 0) (w : World) (hI : Ints w A n c bs) (hn : n ≤ 300) :
    Calls Tryz.prog 87 #[.int .i64 b, .agg #[.slice A n c, .int .i64 code]] w fun e w' => ∃ A2 c2, e = .returned (.agg #[.slice A2 (n + 1) c2, .int .i64 code]) ∧ Ints w' A2 (n + 1) c2 (b :: bs) ∧ Below w.heap.size w w' ∧ Newer (w.heap.size + 2) A2 := by
  have hcb : (code == 0) = false := by simpa using hc
  have hle := hI.le
  have HI := Lib.hid hI
  clear hI hc
  go_enter Tryz.func87, Tryz.ntmps87
  have b1 : Below w.heap.size w (w.alloc (.cells #[.slice A n c, .int .i64 code] 36)) := (Below.refl _ _).alloc (Nat.le_refl _) _
  have b2 : Below w.heap.size w ((w.alloc (.cells #[.slice A n c, .int .i64 code] 36)).alloc (.cells #[.slice none 0 0, .int .i64 0] 36)) := b1.alloc b1.size _
  have hs : (w.alloc (.cells #[.slice A n c, .int .i64 code] 36)).heap.size = w.heap.size + 1 := by simp
  have h0 : ((w.alloc (.cells #[.slice A n c, .int .i64 code] 36)).alloc (.cells #[.slice none 0 0, .int .i64 0] 36)).heap[w.heap.size]? = some (.cells #[.slice A n c, .int .i64 code] 36 (0, 0)) := (Below.heap_alloc _ _ _ (by omega)).trans (MapKept.heap_alloc w _).1
  have h1 := (MapKept.heap_alloc (w.alloc (.cells #[.slice A n c, .int .i64 code] 36)) (.cells #[.slice none 0 0, .int .i64 0] 36)).1
  rw [hs] at h1
  have hsz : ((w.alloc (.cells #[.slice A n c, .int .i64 code] 36)).alloc (.cells #[.slice none 0 0, .int .i64 0] 36)).heap.size = w.heap.size + 2 := by simp
  have H0 := Lib.hid h0
  have H1 := Lib.hid h1
  have B2 := Lib.hid b2
  have HSz := Lib.hid hsz
  have OWN := Lib.hid (fun W => own_one ((w.alloc (.cells #[.slice A n c, .int .i64 code] 36)).alloc (.cells #[.slice none 0 0, .int .i64 0] 36)) W b)
  rw [hsz] at OWN
  have hRw : Hid (∀ W, Below w.heap.size w W → Row W A (i64s bs)) := fun W h => (HI.out.below h).row
  have hBA := Lib.hid (((Below.refl (w.heap.size + 2) ((w.alloc (.cells #[.slice A n c, .int .i64 code] 36)).alloc (.cells #[.slice none 0 0, .int .i64 0] 36))).alloc (by omega) (.cells #[.int .i64 b] 3)).drew)
  clear h0 h1 b1 b2 hs hsz
  go_wp2
  go_region_law (first
    | (refine step_append_row _ rfl (.tmp 10) (.tmp 12) 34 rfl (w.heap.size + 2) 3 (.int .i64 0) 8 Tryz.underlying34 info_i64 rfl (.slice (some ⟨w.heap.size + 2, 0, none⟩) 1 1) 1 [.int .i64 b] rfl (OWN.out _ (Below.refl _ _).drew) (by simp) A (i64s bs) n c rfl (by rw [i64s_length]; exact HI.out.len) (hRw.out _ ((B2.out.alloc B2.out.size _).drew)) (i64s_one _) (by omega) (by omega) ?_
       intro v2 w2 hown2 hs2 hb2
       rw [Nat.add_comm 1 n] at hown2
       have hb3 := hBA.out.trans hb2
       have hp0 := (hb3.block w.heap.size (by omega)).trans H0.out
       have hp1 := (hb3.block (w.heap.size + 1) (by omega)).trans H1.out
       have HP1 := Lib.hid hp1
       have HB3 := Lib.hid (B2.out.trans (hb3.mono (by omega)))
       have k1 : w2.cell? ⟨w.heap.size, 1, none⟩ = some (.int .i64 code) := by rw [cell_of_row w2 w.heap.size 1 _ _ _ hp0]; rfl
       have k2 : w2.cell? ⟨w.heap.size + 1, 0, none⟩ = some (.slice none 0 0) := by rw [cell_of_row w2 (w.heap.size + 1) 0 _ _ _ hp1]; rfl
       have k3 : w2.cell? ⟨w.heap.size + 1, 1, none⟩ = some (.int .i64 0) := by rw [cell_of_row w2 (w.heap.size + 1) 1 _ _ _ hp1]; rfl
       have f0 := Lib.frozen_of_heap hp1 0
       have f1 := Lib.frozen_of_heap hp1 1
       clear hb2 hb3 hp0 hp1
       obtain ⟨A2, c2, hv2, h62, h63⟩ := ownsRow_form hown2.out
       rw [hv2]))
  all_goals go_wp2
  all_goals
    refine bodyPost_ret (results_rf Tryz.results87 _ _ (w.heap.size + 1) (.slice A2 (n + 1) c2) (.int .i64 code) rfl (two_sets HP1.out)) rfl ?_
    have ho : w2.ownsRow (w.heap.size + 2) 3 1 (.slice A2 (n + 1) c2) (n + 1) (i64s (b :: bs)) := by
      have := hown2.out
      rw [hv2] at this
      exact this
    obtain ⟨A3, c3, he, hI⟩ := Ints.of_own ho
    injection he with e1 e2 e3
    subst e1 e3
    refine ⟨A2, c2, rfl, hI.kept2 fun ad e => ?_, (HB3.out.setCell (p := ⟨w.heap.size + 1, 0, none⟩) (by simp) _).setCell (p := ⟨w.heap.size + 1, 1, none⟩) (by simp) _, fun ad e => (own_apart ho ad.block (by rw [e]; rfl)).1⟩
    have := (own_apart ho ad.block (by rw [e]; rfl)).1
    omega

theorem two_keep (w : World) (g : Nat) (a b : Value) {B : Nat} (hg : g < B) (k : Nat) (hk : B ≤ k) : ((w.setCell ⟨g, 0, none⟩ a).setCell ⟨g, 1, none⟩ b).heap[k]? = w.heap[k]? := by
  rw [heap_setCell_other _ _ k _ (by show k ≠ g; omega), heap_setCell_other _ _ k _ (by show k ≠ g; omega)]
theorem below_store2 {B g : Nat} {w0 w : World} (hb : Below B w0 w) (hg : B ≤ g) (a b : Value) : Below B w0 ((w.setCell ⟨g, 0, none⟩ a).setCell ⟨g, 1, none⟩ b) :=
  (hb.setCell (p := ⟨g, 0, none⟩) hg _).setCell (p := ⟨g, 1, none⟩) hg _

/-- an error's variable, all below as it was -/
def Bx (w W : World) : Prop := SmS w W w.heap.size (.slice none 0 0) (.int .i64 0)
theorem Bx.start (w : World) : Bx w (w.alloc (.cells #[.slice none 0 0, .int .i64 0] 36)) := ⟨(Below.refl _ _).alloc (Nat.le_refl _) _, FltAt.new w _ _⟩
theorem Bx.later {w W W' : World} (h : Bx w W) (hb : Below W.heap.size W W') : Bx w W' := SmS.later h hb
theorem Bx.low {w W : World} (h : Bx w W) : w.heap.size + 1 ≤ W.heap.size := block_lt h.flt

set_option maxRecDepth 100000 in
set_option maxHeartbeats 800000 in
theorem ref11At_any (no x : Int) (w : World) :
    Calls Tryz.prog 38 #[.int .i64 no, .int .i64 x] w fun e w' => ∃ A n c, e = .returned (.agg #[.slice A n c, .int .i64 x]) ∧ Ints w' A n c (atL no x) ∧ Newer w.heap.size A ∧ Below w.heap.size w w' := by
  have AT : Hid (∀ W, Bx w W → Calls Tryz.prog 87 #[.int .i64 no, .agg #[.slice none 0 0, .int .i64 x]] W fun e w' => ∃ A n c, e = .returned (.agg #[.slice A n c, .int .i64 x]) ∧ Ints w' A n c (atL no x) ∧ Newer (w.heap.size + 1) A ∧ Bx w w') := fun W hW => by
    by_cases hx : x = 0
    · subst hx
      exact (refAt_nil no none 0 0 W).mono fun e w' ⟨h1, h2⟩ => ⟨none, 0, 0, h1, Ints.nil _, Newer.nil _, hW.later h2⟩
    · rw [atL, if_neg hx]
      refine (refAt_newer no hx W (Ints.nil W) (by omega)).mono ?_
      rintro e w' ⟨A, c, h1, h2, h3, h4⟩
      have := hW.low
      exact ⟨A, 1, c, h1, h2, h4.mono (by omega), hW.later h3⟩
  have hN0 := Bx.start w
  generalize atL no x = l at *
  go_enter Tryz.func38, Tryz.ntmps38
  go_wp2_with (go_at_call 87; (with_reducible refine (AT.out _ hN0).mono ?_); rintro e w1 ⟨A1, n1, c1, rfl, hI, hn, hN1⟩; have HI := Lib.hid hI; have HNW := Lib.hid hn; clear hI hn; obtain ⟨⟨z0, z1⟩, y0, y1⟩ := hN1.flt.cs)
  refine bodyPost_ret (results_rf Tryz.results38 _ _ w.heap.size (.slice A1 n1 c1) (.int .i64 x) rfl (hN1.flt.store _ _)) rfl ?_
  exact ⟨A1, n1, c1, rfl, HI.out.newer HNW.out (two_keep w1 w.heap.size _ _ (by omega)), HNW.out.mono (by omega), below_store2 hN1.bel (Nat.le_refl _) _ _⟩

theorem Trs.newer {w w' : World} {A : Option Addr} {n c : Nat} {l : List Slt} {B : Nat} (h : Trs w A n c l) (hA : Newer B A) (hk : ∀ k, B ≤ k → w'.heap[k]? = w.heap[k]?) : Trs w' A n c l :=
  ⟨h.len, h.cap, h.most, fun k hkl => by
    obtain ⟨ad, e, h0, h1, h2⟩ := h.row k hkl
    have hb : ∀ j, w'.cell? (ad.add j) = w.cell? (ad.add j) := fun j => World.cell?_of_block (hk _ (by rw [addr_add_block]; exact hA ad e))
    exact ⟨ad, e, (hb _).trans h0, (hb _).trans h1, (hb _).trans h2⟩⟩

end Go.Proofs.YtbeobbanppkmhaaGreatDoor

/-
  Layer 11: Write, the program's and the reference's.
-/
namespace Go.Proofs.YtbeobbanppkmhaaGreatDoor
open Go.RowKit
set_option linter.unusedVariables false
set_option linter.unusedSimpArgs false

theorem grown_below {w w' : World} (hb : Below w.heap.size w w') (r : Option Nat) : w.grownBy w' r := ⟨hb.os, hb.tape, hb.output, hb.size, fun k hk _ => hb.block k hk⟩
theorem grown_kept {w w' : World} {g : Nat} (hk : Kept g w w') : w.grownBy w' (some g) := ⟨hk.os, hk.tape, hk.output, by rw [hk.size]; exact Nat.le_refl _, fun k _ hne => hk.block k (fun e => hne (by rw [e]))⟩
theorem grown_trans {a b c : World} {r : Option Nat} (h : a.grownBy b r) (k : b.grownBy c r) : a.grownBy c r :=
  ⟨k.os.trans h.os, k.tape.trans h.tape, k.output.trans h.output, Nat.le_trans h.size k.size, fun i hi hne => (k.block i (Nat.lt_of_lt_of_le hi h.size) hne).trans (h.block i hi hne)⟩
theorem below_grown {w w' : World} {B g : Nat} (h : w.grownBy w' (some g)) (hB : B ≤ g) (hs : B ≤ w.heap.size) : Below B w w' :=
  ⟨h.os, h.tape, h.output, h.size, fun k hk => h.block k (by omega) (fun e => by injection e; omega)⟩

theorem wrE11_seal {n : Nat} {no kind : Int} {l : List UInt8} (h : sealE kind no l.length ≠ 0) : wrE11 n no kind l = sealE kind no l.length := by rw [wrE11, if_pos h]
theorem wrE11_ok {n : Nat} {no kind : Int} {l : List UInt8} (h : sealE kind no l.length = 0) : wrE11 n no kind l = if outB n no = true then 3 else 0 := by rw [wrE11, if_neg (fun e => e h)]
theorem wrL11_bad {L : List UInt8} {n : Nat} {no kind : Int} {l : List UInt8} (h : wrE11 n no kind l ≠ 0) : wrL11 L n no kind l = L := by rw [wrL11, if_neg h]
theorem wrL11_good {L : List UInt8} {n : Nat} {no kind : Int} {l : List UInt8} (h : wrE11 n no kind l = 0) : wrL11 L n no kind l = splice L (no.toNat * 256) (sealB kind no l) := by rw [wrL11, if_pos h]

/-- a sealed block, written by image's Write -/
theorem imgWrite_any {w : World} {B p g n : Nat} {L l : List UInt8} (no : Int) (A : Option Addr) (c : Nat) (h : Img w B p g L) (hL : L.length = n * 256) (hl : Bytes8 w A 256 c l) :
    Calls Tryz.prog 53 #[.pointer (some ⟨p, 0, none⟩), .int .i64 no, .slice A 256 c] w fun e w' => e = .returned (.int .i64 (if outB n no = true then 3 else 0)) ∧ Img w' B p g (if outB n no = true then L else splice L (no.toNat * 256) l) ∧ w.grownBy w' (some g) := by
  cases ho : outB n no with
  | true =>
    refine (Write_bad p no n A 256 c w (Blocks_img w h hL) (outB_iff.1 ho)).mono ?_
    rintro e w' ⟨rfl, rfl⟩
    exact ⟨rfl, by simpa using h, grown_below (Below.refl _ _) _⟩
  | false =>
    obtain ⟨h0, h1⟩ := outB_not.1 ho
    obtain ⟨k, rfl⟩ := Int.eq_ofNat_of_zero_le h0
    refine (Write_img k A c w h hL (by omega) hl).mono ?_
    rintro e w' ⟨rfl, hk, hi⟩
    exact ⟨rfl, by simpa using hi, grown_kept hk⟩

set_option maxRecDepth 100000 in
set_option maxHeartbeats 1600000 in
theorem blockWrite_bad {w : World} (pv : Value) (no kind : Int) {A : Option Addr} {m c : Nat} {l : List UInt8} (hB : Bytes8 w A m c l) (hs : sealE kind no l.length ≠ 0) :
    Calls Tryz.prog 22 #[pv, .int .i64 no, .int .i64 kind, .slice A m c] w fun e w' => ∃ v, e = .returned v ∧ ErrAt w' v no (sealE kind no l.length) ∧ Below w.heap.size w w' := by
  have S := Lib.hid (Seal_any kind no A m c l w hB)
  have AT := Lib.hid (fun x W => bat_any no x W)
  rw [hB.len] at hs ⊢
  have hne : (sealE kind no m == 0) = false := by simpa using hs
  clear hB
  generalize sealE kind no m = x at *
  generalize sealB kind no l = bb at *
  go_enter Tryz.func22, Tryz.ntmps22
  go_wp2_with (first
    | (go_at_call 52; (with_reducible refine (S.out).mono ?_); rintro e w1 ⟨A1, m1, c1, rfl, hB1, hb1⟩; clear hB1)
    | (go_at_call 54; (with_reducible refine (AT.out _ _).mono ?_); rintro e w4 ⟨v, rfl, hv, hb4⟩; have HV := Lib.hid hv; clear hv))
  go_ret
  exact ⟨v, rfl, HV.out, hb1.trans (hb4.mono hb1.size)⟩

/-! what image's Write may do: the error, and what it leaves, which bears what is laid behind -/
set_option maxRecDepth 100000 in
set_option maxHeartbeats 1600000 in
theorem blockWrite_of {w : World} (pv : Value) (no kind y : Int) {A : Option Addr} {m c : Nat} {l : List UInt8} (hB : Bytes8 w A m c l) (hs : sealE kind no l.length = 0) (r : Option Nat) (Q : World → Prop) (hQ : ∀ W W', Below W.heap.size W W' → Q W → Q W')
    (WR : ∀ W A c, Below w.heap.size w W → Bytes8 W A 256 c (sealB kind no l) → Calls Tryz.prog 53 #[pv, .int .i64 no, .slice A 256 c] W fun e w' => e = .returned (.int .i64 y) ∧ Q w' ∧ W.grownBy w' r) :
    Calls Tryz.prog 22 #[pv, .int .i64 no, .int .i64 kind, .slice A m c] w fun e w' => ∃ v, e = .returned v ∧ ErrAt w' v no y ∧ Q w' ∧ w.grownBy w' r := by
  have S : Hid (Calls Tryz.prog 52 #[.int .i64 kind, .int .i64 no, .slice A m c] w fun e w' => ∃ g, e = .returned (.tuple #[.slice (some ⟨g, 0, none⟩) 256 256, .int .i64 0]) ∧ Bytes8 w' (some ⟨g, 0, none⟩) 256 256 (sealB kind no l) ∧ Below w.heap.size w w') :=
    (Seal_good kind no A m c l w hB (by rw [← hB.len]; exact hs)).mono fun e w' ⟨g, h1, h2, h3⟩ => ⟨g, h1, h2.bytes (n := 256) (sealB_length hs) (by omega), h3⟩
  have W2 := Lib.hid WR
  have HQ := Lib.hid hQ
  have AT := Lib.hid (fun x W => bat_any no x W)
  clear hB hs WR hQ
  generalize sealB kind no l = bb at *
  go_enter Tryz.func22, Tryz.ntmps22
  go_wp2_with (first
    | (go_at_call 52; (with_reducible refine (S.out).mono ?_); rintro e w1 ⟨g1, rfl, hB1, hb1⟩; have HB1 := Lib.hid hB1; clear hB1)
    | (go_at_call 53; (with_reducible refine (W2.out _ _ _ hb1 HB1.out).mono ?_); rintro e w2 ⟨rfl, hq, hg⟩; have HQ2 := Lib.hid hq; have HG := Lib.hid hg; clear hq hg)
    | (go_at_call 54; (with_reducible refine (AT.out _ _).mono ?_); rintro e w4 ⟨v, rfl, hv, hb4⟩; have HV := Lib.hid hv; clear hv))
  go_ret
  exact ⟨v, rfl, HV.out, HQ.out _ _ hb4 HQ2.out, grown_trans (grown_trans (grown_below hb1 _) HG.out) (grown_below hb4 _)⟩

/-- of an image -/
theorem blockWrite_any {w : World} {B p g n : Nat} {L : List UInt8} (no kind : Int) (h : Img w B p g L) (hL : L.length = n * 256) {A : Option Addr} {m c : Nat} {l : List UInt8} (hB : Bytes8 w A m c l) :
    Calls Tryz.prog 22 #[.pointer (some ⟨p, 0, none⟩), .int .i64 no, .int .i64 kind, .slice A m c] w fun e w' => ∃ v, e = .returned v ∧ ErrAt w' v no (wrE11 n no kind l) ∧ Img w' B p g (wrL11 L n no kind l) ∧ w.grownBy w' (some g) := by
  by_cases hs : sealE kind no l.length = 0
  · have := blockWrite_of (.pointer (some ⟨p, 0, none⟩)) no kind (if outB n no = true then 3 else 0) hB hs (some g) (fun W => Img W B p g (if outB n no = true then L else splice L (no.toNat * 256) (sealB kind no l))) (fun W W' hb hi => hi.later hb) (fun W A c hW hb => imgWrite_any no A c (h.later hW) hL hb)
    rw [wrE11_ok hs]
    cases ho : outB n no with
    | true =>
      rw [wrL11_bad (by rw [wrE11_ok hs, ho]; decide)]
      simp only [ho] at this
      exact this
    | false =>
      rw [wrL11_good (by rw [wrE11_ok hs, ho]; rfl)]
      simp only [ho] at this
      exact this
  · rw [wrL11_bad (by rw [wrE11_seal hs]; exact hs), wrE11_seal hs]
    exact (blockWrite_bad _ no kind hB hs).mono fun e w' ⟨v, h1, h2, h3⟩ => ⟨v, h1, h2, h.later h3, grown_below h3 _⟩
/-- of no image -/
theorem blockWrite_nil (w : World) (no kind : Int) {A : Option Addr} {m c : Nat} {l : List UInt8} (hB : Bytes8 w A m c l) :
    Calls Tryz.prog 22 #[.pointer none, .int .i64 no, .int .i64 kind, .slice A m c] w fun e w' => ∃ v x, e = .returned v ∧ ErrAt w' v no x ∧ x ≠ 0 ∧ Below w.heap.size w w' := by
  by_cases hs : sealE kind no l.length = 0
  · refine (blockWrite_of (.pointer none) no kind 18 hB hs none (fun W => True) (fun _ _ _ _ => trivial) (fun W A c hW hb => (Write_nil no A 256 c W).mono fun e w' ⟨h1, h2⟩ => ⟨h1, trivial, ?_⟩)).mono fun e w' ⟨v, h1, h2, _, h4⟩ => ⟨v, 18, h1, h2, by decide, ⟨h4.os, h4.tape, h4.output, h4.size, fun k hk => h4.block k hk (by simp)⟩⟩
    rw [h2]
    exact grown_below (Below.refl _ _) _
  · exact (blockWrite_bad _ no kind hB hs).mono fun e w' ⟨v, h1, h2, h3⟩ => ⟨v, _, h1, h2, hs, h3⟩

/-! ### the reference's -/
set_option maxRecDepth 100000 in
set_option maxHeartbeats 1600000 in
theorem refWrite_put2 {B p : Nat} {v : Value} {L : List (List UInt8)} (k : Nat) (A2 : Option Addr) (c2 : Nat) (l : List UInt8) (w : World) (h : RImg w B p v L) (hk : k < L.length) {g cap : Nat} {cur : Array Value} (hv : v = .slice (some ⟨g, 0, none⟩) L.length cap) (hg : p + 1 ≤ g) (hh : w.heap[g]? = some (.cells cur 9 (0, 0))) (h1 : L.length ≤ cap) (h2 : cap ≤ maxLen) (h3 : cur.size = cap) (h4 : cur.toList.take L.length = txts L) (hl : Bytes8 w A2 256 c2 l) :
    Calls Tryz.prog 56 #[.pointer (some ⟨p, 0, none⟩), .int .i64 (k : Int), .slice A2 256 c2] w fun e w' => e = .returned (.int .i64 0) ∧ RImg w' B p v (L.set k l) ∧ w.grownBy w' (some g) := by
  subst hv
  have hcell := h.cell
  have cv := run_str hl
  have cvd : (convert 22 9 (.slice A2 256 c2)).run Tryz.prog w.drew = .ok (.string ⟨l.toArray⟩) w.drew := run_str (hl.below ((Below.refl _ _).drew))
  have hc1 : w.cell? ⟨g, k, none⟩ = some (.string ⟨L[k].toArray⟩) := by
    rw [cell_of_row w g k cur _ _ hh]
    have := txts_at L k hk
    rw [← h4, List.getElem?_take_of_lt hk] at this
    simpa [txt] using this
  have hfz : w.frozen? ⟨g, k, none⟩ = false := frozen_of_row w g k _ _ hh
  have HX : Hid (RImg (w.setCell ⟨g, k, none⟩ (.string ⟨l.toArray⟩)) B p (.slice (some ⟨g, 0, none⟩) L.length cap) (L.set k l)) := h.set l hg hh h1 h2 h3 h4 hk
  have HBl : Hid (w.grownBy (w.setCell ⟨g, k, none⟩ (.string ⟨l.toArray⟩)).drew (some g)) := by
    have hb : Below g w (w.setCell ⟨g, k, none⟩ (.string ⟨l.toArray⟩)) := (Below.refl _ _).setCell (p := ⟨g, k, none⟩) (Nat.le_refl _) _
    exact ⟨hb.drew.os, hb.drew.tape, hb.drew.output, hb.drew.size, fun j hj hne => heap_setCell_other _ _ j _ (fun e => hne (by rw [e]))⟩
  have hkI : (k : Int) < (L.length : Int) := by omega
  have hc63 : cap ≤ 9223372036854775807 := by simpa [maxLen] using h2
  clear h hh h2 h3 h4 hl
  generalize L[k] = t at *
  generalize L.length = n at *
  go_enter Tryz.func56, Tryz.ntmps56
  go_wp2
  go_region
  all_goals go_wp2
  all_goals go_ret
  all_goals exact ⟨rfl, HX.out.later ((Below.refl _ _).drew), HBl.out⟩

/-- an error's variable; all stands as it stood but block g -/
structure BxG (w W : World) (g : Nat) : Prop where
  flt : FltAt W w.heap.size (.slice none 0 0) (.int .i64 0)
  gr : w.grownBy W (some g)
theorem BxG.later {w W W' : World} {g : Nat} (h : BxG w W g) (hb : Below W.heap.size W W') : BxG w W' g := ⟨h.flt.later hb, grown_trans h.gr (grown_below hb _)⟩
theorem BxG.start (w : World) (g : Nat) : BxG w (w.alloc (.cells #[.slice none 0 0, .int .i64 0] 36)) g := ⟨FltAt.new w _ _, grown_below ((Below.refl _ _).alloc (Nat.le_refl _) _) _⟩
theorem grown_box {w W : World} {r : Option Nat} (h : w.grownBy W r) (c d : Value) : w.grownBy ((W.setCell ⟨w.heap.size, 0, none⟩ c).setCell ⟨w.heap.size, 1, none⟩ d) r := by
  have hb : Below w.heap.size W ((W.setCell ⟨w.heap.size, 0, none⟩ c).setCell ⟨w.heap.size, 1, none⟩ d) := below_store2 (Below.refl _ _) (Nat.le_refl _) c d
  exact ⟨hb.os.trans h.os, hb.tape.trans h.tape, hb.output.trans h.output, Nat.le_trans h.size hb.size, fun k hk hne => (hb.block k hk).trans (h.block k hk hne)⟩
theorem RImg.grown {w w' : World} {B p g : Nat} {v : Value} {L : List (List UInt8)} (h : RImg w B p v L) (hk : w.grownBy w' (some g)) (hg : g < p) : RImg w' B p v L := by
  refine ⟨h.bp, (hk.block p h.plt (fun e => by injection e; omega)).trans h.hp, h.own.1, ?_⟩
  rcases h.own.2 with hn | ⟨g2, cap, cur, hv, hg2, hh, rest⟩
  · exact .inl hn
  · exact .inr ⟨g2, cap, cur, hv, hg2, (hk.block g2 (block_lt hh) (fun e => by injection e; omega)).trans hh, rest⟩
theorem RImg.box {w : World} {B p : Nat} {v : Value} {L : List (List UInt8)} (h : RImg w B p v L) {q : Nat} {a b : Value} (hf : FltAt w q a b) (c d : Value) : RImg ((w.setCell ⟨q, 0, none⟩ c).setCell ⟨q, 1, none⟩ d) B p v L := by
  have hp : p ≠ q := fun e => by
    have := h.hp
    rw [e, show w.heap[q]? = _ from hf] at this
    injection this with this
    injection this with _ e2 _
    exact absurd e2 (by decide)
  refine ⟨h.bp, two_other h.hp hp _ _, h.own.1, ?_⟩
  rcases h.own.2 with hn | ⟨g2, cap, cur, hv, hg2, hh, rest⟩
  · exact .inl hn
  · have hne : g2 ≠ q := fun e => by
      rw [e, show w.heap[q]? = _ from hf] at hh
      injection hh with hh
      injection hh with _ e2 _
      exact absurd e2 (by decide)
    exact .inr ⟨g2, cap, cur, hv, hg2, two_other hh hne _ _, rest⟩

set_option maxRecDepth 100000 in
set_option maxHeartbeats 1600000 in
theorem ref11Write_bad {w : World} (pv : Value) (no kind : Int) {A : Option Addr} {m c : Nat} {l : List UInt8} (hB : Bytes8 w A m c l) (hs : sealE kind no l.length ≠ 0) :
    Calls Tryz.prog 23 #[pv, .int .i64 no, .int .i64 kind, .slice A m c] w fun e w' => ∃ f, e = .returned f ∧ BadAt w' f no (sealE kind no l.length) ∧ Below w.heap.size w w' := by
  have S : Hid (∀ W, Bx w W → Calls Tryz.prog 55 #[.int .i64 kind, .int .i64 no, .slice A m c] W fun e w' => ∃ A' m' c', e = .returned (.tuple #[.slice A' m' c', .int .i64 (sealE kind no m)]) ∧ Bx w w') := fun W hW => (refSeal_any kind no A m c l W (hB.below hW.bel)).mono fun e w' ⟨A', m', c', h1, _, h3⟩ => ⟨A', m', c', h1, hW.later h3⟩
  have AT : Hid (∀ W x, Bx w W → Calls Tryz.prog 38 #[.int .i64 no, .int .i64 x] W fun e w' => ∃ A n c, e = .returned (.agg #[.slice A n c, .int .i64 x]) ∧ Ints w' A n c (atL no x) ∧ Newer (w.heap.size + 1) A ∧ Bx w w') := fun W x hW => (ref11At_any no x W).mono fun e w' ⟨A, n, c, h1, h2, h3, h4⟩ => ⟨A, n, c, h1, h2, h3.mono hW.low, hW.later h4⟩
  rw [hB.len] at hs ⊢
  have hne : (sealE kind no m != 0) = true := by simpa using hs
  have hN0 := Bx.start w
  clear hB hs
  generalize sealE kind no m = x at *
  go_enter Tryz.func23, Tryz.ntmps23
  go_wp2_with (first
    | (go_at_call 55; (with_reducible refine (S.out _ hN0).mono ?_); rintro e w1 ⟨A1, m1, c1, rfl, hN1⟩)
    | (go_at_call 38; (with_reducible refine (AT.out _ _ hN1).mono ?_); rintro e w3 ⟨A3, n3, c3, rfl, hI3, hn3, hN3⟩; have HI3 := Lib.hid hI3; have HN3 := Lib.hid hn3; clear hI3 hn3; obtain ⟨⟨z0, z1⟩, y0, y1⟩ := hN3.flt.cs))
  refine bodyPost_ret (results_rf Tryz.results23 _ _ w.heap.size (.slice A3 n3 c3) (.int .i64 x) rfl (hN3.flt.store _ _)) rfl ?_
  exact ⟨_, rfl, ⟨A3, n3, c3, rfl, HI3.out.newer HN3.out (two_keep w3 w.heap.size _ _ (by omega))⟩, below_store2 hN3.bel (Nat.le_refl _) _ _⟩

set_option maxRecDepth 100000 in
set_option maxHeartbeats 1600000 in
theorem ref11Write_of {w : World} {B p g : Nat} {v : Value} {M M' : List (List UInt8)} (no kind y : Int) {A : Option Addr} {m c : Nat} {l : List UInt8} (hR : RImg w B p v M) (hB : Bytes8 w A m c l) (hs : sealE kind no l.length = 0) (hg : p + 1 ≤ g)
    (WR : ∀ W A c, Below w.heap.size w W → BxG w W g → Bytes8 W A 256 c (sealB kind no l) → Calls Tryz.prog 56 #[.pointer (some ⟨p, 0, none⟩), .int .i64 no, .slice A 256 c] W fun e w' => e = .returned (.int .i64 y) ∧ RImg w' B p v M' ∧ BxG w w' g) :
    Calls Tryz.prog 23 #[.pointer (some ⟨p, 0, none⟩), .int .i64 no, .int .i64 kind, .slice A m c] w fun e w' => ∃ f, e = .returned f ∧ BadAt w' f no y ∧ RImg w' B p v M' ∧ Below (p + 1) w w' ∧ w.grownBy w' (some g) := by
  have S : Hid (∀ W, BxG w W g → Below w.heap.size w W → Calls Tryz.prog 55 #[.int .i64 kind, .int .i64 no, .slice A m c] W fun e w' => ∃ A' c', e = .returned (.tuple #[.slice A' 256 c', .int .i64 0]) ∧ Bytes8 w' A' 256 c' (sealB kind no l) ∧ BxG w w' g ∧ Below w.heap.size w w') := fun W hW hb => by
    refine (refSeal_any kind no A m c l W (hB.below hb)).mono ?_
    rintro e w' ⟨A', m', c', h1, h2, h3⟩
    obtain rfl : 256 = m' := by rw [← h2.len, sealB_length hs]
    exact ⟨A', c', by rw [h1, ← hB.len, hs], h2, hW.later h3, hb.trans (h3.mono hb.size)⟩
  have AT : Hid (∀ W x, BxG w W g → RImg W B p v M' → Calls Tryz.prog 38 #[.int .i64 no, .int .i64 x] W fun e w' => ∃ A n c, e = .returned (.agg #[.slice A n c, .int .i64 x]) ∧ Ints w' A n c (atL no x) ∧ Newer (w.heap.size + 1) A ∧ BxG w w' g ∧ RImg w' B p v M') := fun W x hW hi => (ref11At_any no x W).mono fun e w' ⟨A, n, c, h1, h2, h3, h4⟩ => ⟨A, n, c, h1, h2, h3.mono (block_lt hW.flt), hW.later h4, hi.later h4⟩
  have W2 := Lib.hid WR
  have hN0 := BxG.start w g
  have hb0 : Below w.heap.size w (w.alloc (.cells #[.slice none 0 0, .int .i64 0] 36)) := (Below.refl _ _).alloc (Nat.le_refl _) _
  have hpl : p + 1 ≤ w.heap.size := hR.plt
  clear hB hs WR hR
  generalize sealB kind no l = bb at *
  go_enter Tryz.func23, Tryz.ntmps23
  go_wp2_with (first
    | (go_at_call 55; (with_reducible refine (S.out _ hN0 hb0).mono ?_); rintro e w1 ⟨A1, c1, rfl, hB1, hN1, hb1⟩; have HB1 := Lib.hid hB1; clear hB1)
    | (go_at_call 56; (with_reducible refine (W2.out _ _ _ hb1 hN1 HB1.out).mono ?_); rintro e w2 ⟨rfl, hi2, hN2⟩)
    | (go_at_call 38; (with_reducible refine (AT.out _ _ hN2 hi2).mono ?_); rintro e w3 ⟨A3, n3, c3, rfl, hI3, hn3, hN3, hi3⟩; have HI3 := Lib.hid hI3; have HN3 := Lib.hid hn3; have HM3 := Lib.hid hi3; clear hI3 hn3 hi3; obtain ⟨⟨z0, z1⟩, y0, y1⟩ := hN3.flt.cs))
  refine bodyPost_ret (results_rf Tryz.results23 _ _ w.heap.size (.slice A3 n3 c3) (.int .i64 y) rfl (hN3.flt.store _ _)) rfl ?_
  exact ⟨_, rfl, ⟨A3, n3, c3, rfl, HI3.out.newer HN3.out (two_keep w3 w.heap.size _ _ (by omega))⟩, HM3.out.box hN3.flt _ _, below_store2 (below_grown hN3.gr hg hpl) hpl _ _, grown_box hN3.gr _ _⟩

/-- of an image -/
theorem ref11Write_any {w : World} {B p n : Nat} {v : Value} {L : List UInt8} (no kind : Int) (h : RImg w B p v (blks L n)) (hL : L.length = n * 256) {A : Option Addr} {m c : Nat} {l : List UInt8} (hB : Bytes8 w A m c l) :
    Calls Tryz.prog 23 #[.pointer (some ⟨p, 0, none⟩), .int .i64 no, .int .i64 kind, .slice A m c] w fun e w' => ∃ f, e = .returned f ∧ BadAt w' f no (wrE11 n no kind l) ∧ RImg w' B p v (blks (wrL11 L n no kind l) n) ∧ Below (p + 1) w w' ∧ Keeps w w' := by
  have hpl : p + 1 ≤ w.heap.size := h.plt
  by_cases hs : sealE kind no l.length = 0
  · rw [wrE11_ok hs]
    cases ho : outB n no with
    | true =>
      rw [wrL11_bad (by rw [wrE11_ok hs, ho]; decide), if_pos rfl]
      exact (ref11Write_of (g := w.heap.size) no kind 3 h hB hs hpl fun W A' c' hW hx hb =>
        (refWrite_bad no A' 256 c' W (h.later hW) (by rw [blks_length]; exact outB_iff.1 ho)).mono fun e w' ⟨h1, h2⟩ => ⟨h1, h2 ▸ h.later hW, h2 ▸ hx⟩).mono fun e w' ⟨f, h1, h2, h3, h4, h5⟩ => ⟨f, h1, h2, h3, h4, Keeps.of_grown h5 (fun c e => by rw [Array.getElem?_eq_none (Nat.le_refl _)] at e; cases e)⟩
    | false =>
      obtain ⟨h0, h1⟩ := outB_not.1 ho
      obtain ⟨k, rfl⟩ := Int.eq_ofNat_of_zero_le h0
      rw [wrL11_good (by rw [wrE11_ok hs, ho]; rfl), if_neg (by decide)]
      have hk : k < (blks L n).length := by rw [blks_length]; omega
      obtain ⟨g, cap, cur, hv, hg, hh, q1, q2, q3, q4⟩ := h.lit (by omega)
      have e : (blks L n).set k (sealB kind k l) = blks (splice L (((k : Int)).toNat * 256) (sealB kind k l)) n := by
        have hw : wE n (k : Int) 256 = 0 := by unfold wE; rw [if_neg (by omega), if_pos rfl]
        have := wM_blks (q := n) (k := (k : Int)) (m := 256) (L := L) (l := sealB kind k l) hL (sealB_length hs)
        rw [wM, wL, hw, if_pos rfl, if_pos rfl] at this
        exact this
      rw [← e]
      refine (ref11Write_of (g := g) k kind 0 h hB hs hg fun W A' c' hW hx hb =>
        (refWrite_put2 k A' c' _ W (h.later hW) hk hv hg ((hW.block g (block_lt hh)).trans hh) q1 q2 q3 q4 hb).mono fun e w' ⟨h1, h2, h3⟩ => ⟨h1, h2, ⟨(h3.block _ (block_lt hx.flt) (fun e => by injection e with e; have := block_lt hh; omega)).trans hx.flt, grown_trans hx.gr h3⟩⟩).mono fun e w' ⟨f, h1, h2, h3, h4, h5⟩ => ⟨f, h1, h2, h3, h4, Keeps.of_grown h5 (fun c e => ?_)⟩
      rw [hh] at e
      injection e with e
      injection e with _ e2 _
      exact absurd e2 (by decide)
  · rw [wrL11_bad (by rw [wrE11_seal hs]; exact hs), wrE11_seal hs]
    exact (ref11Write_bad _ no kind hB hs).mono fun e w' ⟨f, h1, h2, h3⟩ => ⟨f, h1, h2, h.later h3, h3.mono hpl, Keeps.of_below h3⟩

end Go.Proofs.YtbeobbanppkmhaaGreatDoor
