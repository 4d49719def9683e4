/-
  Joined: BlkR, BlkW, AlcB, AlcC, AlcD, AlcE, AlcR, AlcS.
-/
import Derived.Test.YtnjlganofjkpfaaGreatDoorJBldA42
import Derived.Test.YtnjlganofjkpfaaGreatDoorJBldA31
import Derived.Test.YtnjlganofjkpfaaGreatDoorJBldA28
import Derived.Test.YtnjlganofjkpfaaGreatDoorJBldA24
import Derived.Test.YtnjlganofjkpfaaGreatDoorJBldA22
import Derived.Test.YtnjlganofjkpfaaGreatDoorJBldA40
import Derived.Test.YtnjlganofjkpfaaGreatDoorJBldA03
import Derived.Test.YtnjlganofjkpfaaGreatDoorJBldA23
import Derived.Test.YtnjlganofjkpfaaGreatDoorJBldA19
import Derived.Test.YtnjlganofjkpfaaGreatDoorJBldA04
import Derived.Deep.RegionWith
/-
  Layer 11's reference: At, in, Bits, Index.
-/
namespace Go.Proofs.YtnjlganofjkpfaaGreatDoor
open Go.RowKit
set_option linter.unusedVariables false
set_option linter.unusedSimpArgs false

set_option maxRecDepth 100000 in
set_option maxHeartbeats 4000000 in
theorem refAt_newer (b : Int) {A : Option Addr} {n c : Nat} {bs : List Int} {code : Int} (hc : code ≠ 0) (w : World) (hI : Ints w A n c bs) (hn : n ≤ 300) :
    Calls Tryz.prog 96 #[.int .i64 b, .agg #[.slice A n c, .int .i64 code]] w fun e w' => ∃ A2 c2, e = .returned (.agg #[.slice A2 (n + 1) c2, .int .i64 code]) ∧ Ints w' A2 (n + 1) c2 (b :: bs) ∧ Below w.heap.size w w' ∧ Newer (w.heap.size + 2) A2 := by
  have hcb : (code == 0) = false := by simpa using hc
  have hle := hI.le
  have HI := Lib.hid hI
  clear hI hc
  go_enter Tryz.func96, Tryz.ntmps96
  have b1 : Below w.heap.size w (w.alloc (.cells #[.slice A n c, .int .i64 code] 33)) := (Below.refl _ _).alloc (Nat.le_refl _) _
  have b2 : Below w.heap.size w ((w.alloc (.cells #[.slice A n c, .int .i64 code] 33)).alloc (.cells #[.slice none 0 0, .int .i64 0] 33)) := b1.alloc b1.size _
  have hs : (w.alloc (.cells #[.slice A n c, .int .i64 code] 33)).heap.size = w.heap.size + 1 := by simp
  have h0 : ((w.alloc (.cells #[.slice A n c, .int .i64 code] 33)).alloc (.cells #[.slice none 0 0, .int .i64 0] 33)).heap[w.heap.size]? = some (.cells #[.slice A n c, .int .i64 code] 33 (0, 0)) := (Below.heap_alloc _ _ _ (by omega)).trans (MapKept.heap_alloc w _).1
  have h1 := (MapKept.heap_alloc (w.alloc (.cells #[.slice A n c, .int .i64 code] 33)) (.cells #[.slice none 0 0, .int .i64 0] 33)).1
  rw [hs] at h1
  have hsz : ((w.alloc (.cells #[.slice A n c, .int .i64 code] 33)).alloc (.cells #[.slice none 0 0, .int .i64 0] 33)).heap.size = w.heap.size + 2 := by simp
  have H0 := Lib.hid h0
  have H1 := Lib.hid h1
  have B2 := Lib.hid b2
  have HSz := Lib.hid hsz
  have OWN := Lib.hid (fun W => own_one ((w.alloc (.cells #[.slice A n c, .int .i64 code] 33)).alloc (.cells #[.slice none 0 0, .int .i64 0] 33)) W b)
  rw [hsz] at OWN
  have hRw : Hid (∀ W, Below w.heap.size w W → Row W A (i64s bs)) := fun W h => (HI.out.below h).row
  have hBA := Lib.hid (((Below.refl (w.heap.size + 2) ((w.alloc (.cells #[.slice A n c, .int .i64 code] 33)).alloc (.cells #[.slice none 0 0, .int .i64 0] 33))).alloc (by omega) (.cells #[.int .i64 b] 3)).drew)
  clear h0 h1 b1 b2 hs hsz
  go_wp2
  go_region_law (first
    | (refine step_append_row _ rfl (.tmp 10) (.tmp 12) 31 rfl (w.heap.size + 2) 3 (.int .i64 0) 8 Tryz.underlying31 info_i64 rfl (.slice (some ⟨w.heap.size + 2, 0, none⟩) 1 1) 1 [.int .i64 b] rfl (OWN.out _ (Below.refl _ _).drew) (by simp) A (i64s bs) n c rfl (by rw [i64s_length]; exact HI.out.len) (hRw.out _ ((B2.out.alloc B2.out.size _).drew)) (i64s_one _) (by omega) (by omega) ?_
       intro v2 w2 hown2 hs2 hb2
       rw [Nat.add_comm 1 n] at hown2
       have hb3 := hBA.out.trans hb2
       have hp0 := (hb3.block w.heap.size (by omega)).trans H0.out
       have hp1 := (hb3.block (w.heap.size + 1) (by omega)).trans H1.out
       have HP1 := Lib.hid hp1
       have HB3 := Lib.hid (B2.out.trans (hb3.mono (by omega)))
       have k1 : w2.cell? ⟨w.heap.size, 1, none⟩ = some (.int .i64 code) := by rw [cell_of_row w2 w.heap.size 1 _ _ _ hp0]; rfl
       have k2 : w2.cell? ⟨w.heap.size + 1, 0, none⟩ = some (.slice none 0 0) := by rw [cell_of_row w2 (w.heap.size + 1) 0 _ _ _ hp1]; rfl
       have k3 : w2.cell? ⟨w.heap.size + 1, 1, none⟩ = some (.int .i64 0) := by rw [cell_of_row w2 (w.heap.size + 1) 1 _ _ _ hp1]; rfl
       have f0 := Lib.frozen_of_heap hp1 0
       have f1 := Lib.frozen_of_heap hp1 1
       clear hb2 hb3 hp0 hp1
       obtain ⟨A2, c2, hv2, h62, h63⟩ := ownsRow_form hown2.out
       rw [hv2]))
  all_goals go_wp2
  all_goals
    refine bodyPost_ret (results_rf Tryz.results96 _ _ (w.heap.size + 1) (.slice A2 (n + 1) c2) (.int .i64 code) rfl (two_sets HP1.out)) rfl ?_
    have ho : w2.ownsRow (w.heap.size + 2) 3 1 (.slice A2 (n + 1) c2) (n + 1) (i64s (b :: bs)) := by
      have := hown2.out
      rw [hv2] at this
      exact this
    obtain ⟨A3, c3, he, hI⟩ := Ints.of_own ho
    injection he with e1 e2 e3
    subst e1 e3
    refine ⟨A2, c2, rfl, hI.kept2 fun ad e => ?_, (HB3.out.setCell (p := ⟨w.heap.size + 1, 0, none⟩) (by simp) _).setCell (p := ⟨w.heap.size + 1, 1, none⟩) (by simp) _, fun ad e => (own_apart ho ad.block (by rw [e]; rfl)).1⟩
    have := (own_apart ho ad.block (by rw [e]; rfl)).1
    omega

theorem two_keep (w : World) (g : Nat) (a b : Value) {B : Nat} (hg : g < B) (k : Nat) (hk : B ≤ k) : ((w.setCell ⟨g, 0, none⟩ a).setCell ⟨g, 1, none⟩ b).heap[k]? = w.heap[k]? := by
  rw [heap_setCell_other _ _ k _ (by show k ≠ g; omega), heap_setCell_other _ _ k _ (by show k ≠ g; omega)]
theorem below_store2 {B g : Nat} {w0 w : World} (hb : Below B w0 w) (hg : B ≤ g) (a b : Value) : Below B w0 ((w.setCell ⟨g, 0, none⟩ a).setCell ⟨g, 1, none⟩ b) :=
  (hb.setCell (p := ⟨g, 0, none⟩) hg _).setCell (p := ⟨g, 1, none⟩) hg _

/-- an error's variable, all below as it was -/
def Bx (w W : World) : Prop := SmS w W w.heap.size (.slice none 0 0) (.int .i64 0)
theorem Bx.start (w : World) : Bx w (w.alloc (.cells #[.slice none 0 0, .int .i64 0] 33)) := ⟨(Below.refl _ _).alloc (Nat.le_refl _) _, FltAt.new w _ _⟩
theorem Bx.later {w W W' : World} (h : Bx w W) (hb : Below W.heap.size W W') : Bx w W' := SmS.later h hb
theorem Bx.low {w W : World} (h : Bx w W) : w.heap.size + 1 ≤ W.heap.size := block_lt h.flt

set_option maxRecDepth 100000 in
set_option maxHeartbeats 800000 in
theorem ref11At_any (no x : Int) (w : World) :
    Calls Tryz.prog 83 #[.int .i64 no, .int .i64 x] w fun e w' => ∃ A n c, e = .returned (.agg #[.slice A n c, .int .i64 x]) ∧ Ints w' A n c (atL no x) ∧ Newer w.heap.size A ∧ Below w.heap.size w w' := by
  have AT : Hid (∀ W, Bx w W → Calls Tryz.prog 96 #[.int .i64 no, .agg #[.slice none 0 0, .int .i64 x]] W fun e w' => ∃ A n c, e = .returned (.agg #[.slice A n c, .int .i64 x]) ∧ Ints w' A n c (atL no x) ∧ Newer (w.heap.size + 1) A ∧ Bx w w') := fun W hW => by
    by_cases hx : x = 0
    · subst hx
      exact (refAt_nil no none 0 0 W).mono fun e w' ⟨h1, h2⟩ => ⟨none, 0, 0, h1, Ints.nil _, Newer.nil _, hW.later h2⟩
    · rw [atL, if_neg hx]
      refine (refAt_newer no hx W (Ints.nil W) (by omega)).mono ?_
      rintro e w' ⟨A, c, h1, h2, h3, h4⟩
      have := hW.low
      exact ⟨A, 1, c, h1, h2, h4.mono (by omega), hW.later h3⟩
  have hN0 := Bx.start w
  generalize atL no x = l at *
  go_enter Tryz.func83, Tryz.ntmps83
  go_wp2_with (go_at_call 96; (with_reducible refine (AT.out _ hN0).mono ?_); rintro e w1 ⟨A1, n1, c1, rfl, hI, hn, hN1⟩; have HI := Lib.hid hI; have HNW := Lib.hid hn; clear hI hn; obtain ⟨⟨z0, z1⟩, y0, y1⟩ := hN1.flt.cs)
  refine bodyPost_ret (results_rf Tryz.results83 _ _ w.heap.size (.slice A1 n1 c1) (.int .i64 x) rfl (hN1.flt.store _ _)) rfl ?_
  exact ⟨A1, n1, c1, rfl, HI.out.newer HNW.out (two_keep w1 w.heap.size _ _ (by omega)), HNW.out.mono (by omega), below_store2 hN1.bel (Nat.le_refl _) _ _⟩

theorem Trs.newer {w w' : World} {A : Option Addr} {n c : Nat} {l : List Slt} {B : Nat} (h : Trs w A n c l) (hA : Newer B A) (hk : ∀ k, B ≤ k → w'.heap[k]? = w.heap[k]?) : Trs w' A n c l :=
  ⟨h.len, h.cap, h.most, fun k hkl => by
    obtain ⟨ad, e, h0, h1, h2⟩ := h.row k hkl
    have hb : ∀ j, w'.cell? (ad.add j) = w.cell? (ad.add j) := fun j => World.cell?_of_block (hk _ (by rw [addr_add_block]; exact hA ad e))
    exact ⟨ad, e, (hb _).trans h0, (hb _).trans h1, (hb _).trans h2⟩⟩

end Go.Proofs.YtnjlganofjkpfaaGreatDoor

/-
  Layer 11: Write, the program's and the reference's.
-/
namespace Go.Proofs.YtnjlganofjkpfaaGreatDoor
open Go.RowKit
set_option linter.unusedVariables false
set_option linter.unusedSimpArgs false

theorem grown_below {w w' : World} (hb : Below w.heap.size w w') (r : Option Nat) : w.grownBy w' r := ⟨hb.os, hb.tape, hb.output, hb.size, fun k hk _ => hb.block k hk⟩
theorem grown_kept {w w' : World} {g : Nat} (hk : Kept g w w') : w.grownBy w' (some g) := ⟨hk.os, hk.tape, hk.output, by rw [hk.size]; exact Nat.le_refl _, fun k _ hne => hk.block k (fun e => hne (by rw [e]))⟩
theorem grown_trans {a b c : World} {r : Option Nat} (h : a.grownBy b r) (k : b.grownBy c r) : a.grownBy c r :=
  ⟨k.os.trans h.os, k.tape.trans h.tape, k.output.trans h.output, Nat.le_trans h.size k.size, fun i hi hne => (k.block i (Nat.lt_of_lt_of_le hi h.size) hne).trans (h.block i hi hne)⟩
theorem below_grown {w w' : World} {B g : Nat} (h : w.grownBy w' (some g)) (hB : B ≤ g) (hs : B ≤ w.heap.size) : Below B w w' :=
  ⟨h.os, h.tape, h.output, h.size, fun k hk => h.block k (by omega) (fun e => by injection e; omega)⟩

theorem wrE11_seal {n : Nat} {no kind : Int} {l : List UInt8} (h : sealE kind no l.length ≠ 0) : wrE11 n no kind l = sealE kind no l.length := by rw [wrE11, if_pos h]
theorem wrE11_ok {n : Nat} {no kind : Int} {l : List UInt8} (h : sealE kind no l.length = 0) : wrE11 n no kind l = if outB n no = true then 3 else 0 := by rw [wrE11, if_neg (fun e => e h)]
theorem wrL11_bad {L : List UInt8} {n : Nat} {no kind : Int} {l : List UInt8} (h : wrE11 n no kind l ≠ 0) : wrL11 L n no kind l = L := by rw [wrL11, if_neg h]
theorem wrL11_good {L : List UInt8} {n : Nat} {no kind : Int} {l : List UInt8} (h : wrE11 n no kind l = 0) : wrL11 L n no kind l = splice L (no.toNat * 256) (sealB kind no l) := by rw [wrL11, if_pos h]

/-- a sealed block, written by image's Write -/
theorem imgWrite_any {w : World} {B p g n : Nat} {L l : List UInt8} (no : Int) (A : Option Addr) (c : Nat) (h : Img w B p g L) (hL : L.length = n * 256) (hl : Bytes8 w A 256 c l) :
    Calls Tryz.prog 103 #[.pointer (some ⟨p, 0, none⟩), .int .i64 no, .slice A 256 c] w fun e w' => e = .returned (.int .i64 (if outB n no = true then 3 else 0)) ∧ Img w' B p g (if outB n no = true then L else splice L (no.toNat * 256) l) ∧ w.grownBy w' (some g) := by
  cases ho : outB n no with
  | true =>
    refine (Write_bad p no n A 256 c w (Blocks_img w h hL) (outB_iff.1 ho)).mono ?_
    rintro e w' ⟨rfl, rfl⟩
    exact ⟨rfl, by simpa using h, grown_below (Below.refl _ _) _⟩
  | false =>
    obtain ⟨h0, h1⟩ := outB_not.1 ho
    obtain ⟨k, rfl⟩ := Int.eq_ofNat_of_zero_le h0
    refine (Write_img k A c w h hL (by omega) hl).mono ?_
    rintro e w' ⟨rfl, hk, hi⟩
    exact ⟨rfl, by simpa using hi, grown_kept hk⟩

set_option maxRecDepth 100000 in
set_option maxHeartbeats 1600000 in
theorem blockWrite_bad {w : World} (pv : Value) (no kind : Int) {A : Option Addr} {m c : Nat} {l : List UInt8} (hB : Bytes8 w A m c l) (hs : sealE kind no l.length ≠ 0) :
    Calls Tryz.prog 90 #[pv, .int .i64 no, .int .i64 kind, .slice A m c] w fun e w' => ∃ v, e = .returned v ∧ ErrAt w' v no (sealE kind no l.length) ∧ Below w.heap.size w w' := by
  have S := Lib.hid (Seal_any kind no A m c l w hB)
  have AT := Lib.hid (fun x W => bat_any no x W)
  rw [hB.len] at hs ⊢
  have hne : (sealE kind no m == 0) = false := by simpa using hs
  clear hB
  generalize sealE kind no m = x at *
  generalize sealB kind no l = bb at *
  go_enter Tryz.func90, Tryz.ntmps90
  go_wp2_with (first
    | (go_at_call 102; (with_reducible refine (S.out).mono ?_); rintro e w1 ⟨A1, m1, c1, rfl, hB1, hb1⟩; clear hB1)
    | (go_at_call 104; (with_reducible refine (AT.out _ _).mono ?_); rintro e w4 ⟨v, rfl, hv, hb4⟩; have HV := Lib.hid hv; clear hv))
  go_ret
  exact ⟨v, rfl, HV.out, hb1.trans (hb4.mono hb1.size)⟩

/-! what image's Write may do: the error, and what it leaves, which bears what is laid behind -/
set_option maxRecDepth 100000 in
set_option maxHeartbeats 1600000 in
theorem blockWrite_of {w : World} (pv : Value) (no kind y : Int) {A : Option Addr} {m c : Nat} {l : List UInt8} (hB : Bytes8 w A m c l) (hs : sealE kind no l.length = 0) (r : Option Nat) (Q : World → Prop) (hQ : ∀ W W', Below W.heap.size W W' → Q W → Q W')
    (WR : ∀ W A c, Below w.heap.size w W → Bytes8 W A 256 c (sealB kind no l) → Calls Tryz.prog 103 #[pv, .int .i64 no, .slice A 256 c] W fun e w' => e = .returned (.int .i64 y) ∧ Q w' ∧ W.grownBy w' r) :
    Calls Tryz.prog 90 #[pv, .int .i64 no, .int .i64 kind, .slice A m c] w fun e w' => ∃ v, e = .returned v ∧ ErrAt w' v no y ∧ Q w' ∧ w.grownBy w' r := by
  have S : Hid (Calls Tryz.prog 102 #[.int .i64 kind, .int .i64 no, .slice A m c] w fun e w' => ∃ g, e = .returned (.tuple #[.slice (some ⟨g, 0, none⟩) 256 256, .int .i64 0]) ∧ Bytes8 w' (some ⟨g, 0, none⟩) 256 256 (sealB kind no l) ∧ Below w.heap.size w w') :=
    (Seal_good kind no A m c l w hB (by rw [← hB.len]; exact hs)).mono fun e w' ⟨g, h1, h2, h3⟩ => ⟨g, h1, h2.bytes (n := 256) (sealB_length hs) (by omega), h3⟩
  have W2 := Lib.hid WR
  have HQ := Lib.hid hQ
  have AT := Lib.hid (fun x W => bat_any no x W)
  clear hB hs WR hQ
  generalize sealB kind no l = bb at *
  go_enter Tryz.func90, Tryz.ntmps90
  go_wp2_with (first
    | (go_at_call 102; (with_reducible refine (S.out).mono ?_); rintro e w1 ⟨g1, rfl, hB1, hb1⟩; have HB1 := Lib.hid hB1; clear hB1)
    | (go_at_call 103; (with_reducible refine (W2.out _ _ _ hb1 HB1.out).mono ?_); rintro e w2 ⟨rfl, hq, hg⟩; have HQ2 := Lib.hid hq; have HG := Lib.hid hg; clear hq hg)
    | (go_at_call 104; (with_reducible refine (AT.out _ _).mono ?_); rintro e w4 ⟨v, rfl, hv, hb4⟩; have HV := Lib.hid hv; clear hv))
  go_ret
  exact ⟨v, rfl, HV.out, HQ.out _ _ hb4 HQ2.out, grown_trans (grown_trans (grown_below hb1 _) HG.out) (grown_below hb4 _)⟩

/-- of an image -/
theorem blockWrite_any {w : World} {B p g n : Nat} {L : List UInt8} (no kind : Int) (h : Img w B p g L) (hL : L.length = n * 256) {A : Option Addr} {m c : Nat} {l : List UInt8} (hB : Bytes8 w A m c l) :
    Calls Tryz.prog 90 #[.pointer (some ⟨p, 0, none⟩), .int .i64 no, .int .i64 kind, .slice A m c] w fun e w' => ∃ v, e = .returned v ∧ ErrAt w' v no (wrE11 n no kind l) ∧ Img w' B p g (wrL11 L n no kind l) ∧ w.grownBy w' (some g) := by
  by_cases hs : sealE kind no l.length = 0
  · have := blockWrite_of (.pointer (some ⟨p, 0, none⟩)) no kind (if outB n no = true then 3 else 0) hB hs (some g) (fun W => Img W B p g (if outB n no = true then L else splice L (no.toNat * 256) (sealB kind no l))) (fun W W' hb hi => hi.later hb) (fun W A c hW hb => imgWrite_any no A c (h.later hW) hL hb)
    rw [wrE11_ok hs]
    cases ho : outB n no with
    | true =>
      rw [wrL11_bad (by rw [wrE11_ok hs, ho]; decide)]
      simp only [ho] at this
      exact this
    | false =>
      rw [wrL11_good (by rw [wrE11_ok hs, ho]; rfl)]
      simp only [ho] at this
      exact this
  · rw [wrL11_bad (by rw [wrE11_seal hs]; exact hs), wrE11_seal hs]
    exact (blockWrite_bad _ no kind hB hs).mono fun e w' ⟨v, h1, h2, h3⟩ => ⟨v, h1, h2, h.later h3, grown_below h3 _⟩
/-! ### the reference's -/
set_option maxRecDepth 100000 in
set_option maxHeartbeats 1600000 in
theorem refWrite_put2 {B p : Nat} {v : Value} {L : List (List UInt8)} (k : Nat) (A2 : Option Addr) (c2 : Nat) (l : List UInt8) (w : World) (h : RImg w B p v L) (hk : k < L.length) {g cap : Nat} {cur : Array Value} (hv : v = .slice (some ⟨g, 0, none⟩) L.length cap) (hg : p + 1 ≤ g) (hh : w.heap[g]? = some (.cells cur 9 (0, 0))) (h1 : L.length ≤ cap) (h2 : cap ≤ maxLen) (h3 : cur.size = cap) (h4 : cur.toList.take L.length = txts L) (hl : Bytes8 w A2 256 c2 l) :
    Calls Tryz.prog 84 #[.pointer (some ⟨p, 0, none⟩), .int .i64 (k : Int), .slice A2 256 c2] w fun e w' => e = .returned (.int .i64 0) ∧ RImg w' B p v (L.set k l) ∧ w.grownBy w' (some g) := by
  subst hv
  have hcell := h.cell
  have cv := run_str hl
  have cvd : (convert 29 9 (.slice A2 256 c2)).run Tryz.prog w.drew = .ok (.string ⟨l.toArray⟩) w.drew := run_str (hl.below ((Below.refl _ _).drew))
  have hc1 : w.cell? ⟨g, k, none⟩ = some (.string ⟨L[k].toArray⟩) := by
    rw [cell_of_row w g k cur _ _ hh]
    have := txts_at L k hk
    rw [← h4, List.getElem?_take_of_lt hk] at this
    simpa [txt] using this
  have hfz : w.frozen? ⟨g, k, none⟩ = false := frozen_of_row w g k _ _ hh
  have HX : Hid (RImg (w.setCell ⟨g, k, none⟩ (.string ⟨l.toArray⟩)) B p (.slice (some ⟨g, 0, none⟩) L.length cap) (L.set k l)) := h.set l hg hh h1 h2 h3 h4 hk
  have HBl : Hid (w.grownBy (w.setCell ⟨g, k, none⟩ (.string ⟨l.toArray⟩)).drew (some g)) := by
    have hb : Below g w (w.setCell ⟨g, k, none⟩ (.string ⟨l.toArray⟩)) := (Below.refl _ _).setCell (p := ⟨g, k, none⟩) (Nat.le_refl _) _
    exact ⟨hb.drew.os, hb.drew.tape, hb.drew.output, hb.drew.size, fun j hj hne => heap_setCell_other _ _ j _ (fun e => hne (by rw [e]))⟩
  have hkI : (k : Int) < (L.length : Int) := by omega
  have hc63 : cap ≤ 9223372036854775807 := by simpa [maxLen] using h2
  clear h hh h2 h3 h4 hl
  generalize L[k] = t at *
  generalize L.length = n at *
  go_enter Tryz.func84, Tryz.ntmps84
  go_wp2
  go_region
  all_goals go_wp2
  all_goals go_ret
  all_goals exact ⟨rfl, HX.out.later ((Below.refl _ _).drew), HBl.out⟩

/-- an error's variable; all stands as it stood but block g -/
structure BxG (w W : World) (g : Nat) : Prop where
  flt : FltAt W w.heap.size (.slice none 0 0) (.int .i64 0)
  gr : w.grownBy W (some g)
theorem BxG.later {w W W' : World} {g : Nat} (h : BxG w W g) (hb : Below W.heap.size W W') : BxG w W' g := ⟨h.flt.later hb, grown_trans h.gr (grown_below hb _)⟩
theorem BxG.start (w : World) (g : Nat) : BxG w (w.alloc (.cells #[.slice none 0 0, .int .i64 0] 33)) g := ⟨FltAt.new w _ _, grown_below ((Below.refl _ _).alloc (Nat.le_refl _) _) _⟩
theorem grown_box {w W : World} {r : Option Nat} (h : w.grownBy W r) (c d : Value) : w.grownBy ((W.setCell ⟨w.heap.size, 0, none⟩ c).setCell ⟨w.heap.size, 1, none⟩ d) r := by
  have hb : Below w.heap.size W ((W.setCell ⟨w.heap.size, 0, none⟩ c).setCell ⟨w.heap.size, 1, none⟩ d) := below_store2 (Below.refl _ _) (Nat.le_refl _) c d
  exact ⟨hb.os.trans h.os, hb.tape.trans h.tape, hb.output.trans h.output, Nat.le_trans h.size hb.size, fun k hk hne => (hb.block k hk).trans (h.block k hk hne)⟩
theorem RImg.grown {w w' : World} {B p g : Nat} {v : Value} {L : List (List UInt8)} (h : RImg w B p v L) (hk : w.grownBy w' (some g)) (hg : g < p) : RImg w' B p v L := by
  refine ⟨h.bp, (hk.block p h.plt (fun e => by injection e; omega)).trans h.hp, h.own.1, ?_⟩
  rcases h.own.2 with hn | ⟨g2, cap, cur, hv, hg2, hh, rest⟩
  · exact .inl hn
  · exact .inr ⟨g2, cap, cur, hv, hg2, (hk.block g2 (block_lt hh) (fun e => by injection e; omega)).trans hh, rest⟩
theorem RImg.box {w : World} {B p : Nat} {v : Value} {L : List (List UInt8)} (h : RImg w B p v L) {q : Nat} {a b : Value} (hf : FltAt w q a b) (c d : Value) : RImg ((w.setCell ⟨q, 0, none⟩ c).setCell ⟨q, 1, none⟩ d) B p v L := by
  have hp : p ≠ q := fun e => by
    have := h.hp
    rw [e, show w.heap[q]? = _ from hf] at this
    injection this with this
    injection this with _ e2 _
    exact absurd e2 (by decide)
  refine ⟨h.bp, two_other h.hp hp _ _, h.own.1, ?_⟩
  rcases h.own.2 with hn | ⟨g2, cap, cur, hv, hg2, hh, rest⟩
  · exact .inl hn
  · have hne : g2 ≠ q := fun e => by
      rw [e, show w.heap[q]? = _ from hf] at hh
      injection hh with hh
      injection hh with _ e2 _
      exact absurd e2 (by decide)
    exact .inr ⟨g2, cap, cur, hv, hg2, two_other hh hne _ _, rest⟩

end Go.Proofs.YtnjlganofjkpfaaGreatDoor

/-
  Layer 16: Next, Lay, slices.Clone, Ahead.
-/
namespace Go.Proofs.YtnjlganofjkpfaaGreatDoor
open Go.RowKit
set_option linter.unusedVariables false
set_option linter.unusedSimpArgs false

section
variable {w : World} {base p m : Nat} {A : Option Addr} {n c : Nat} {l : List Int} {t : Nat}
theorem Next_none16 (h : Alc w base p m A n c l t) (ht : n = t) : Calls Tryz.prog 91 #[.pointer (some ⟨p, 0, none⟩)] w fun e w' => e = .returned (.tuple #[.int .i64 0, .iface 40 (.int .i64 14)]) ∧ Below w.heap.size w w' := by
  have NX := Lib.hid (next_none16 h ht)
  clear h ht
  go_enter Tryz.func91, Tryz.ntmps91
  go_wp2_with (go_at_call 89; (with_reducible refine (NX.out).mono ?_); rintro e w1 ⟨rfl, hb⟩)
  go_ret2
  exact ⟨rfl, hb⟩

theorem Next_some16 (h : Alc w base p m A n c l t) (ht : t < n) : Calls Tryz.prog 91 #[.pointer (some ⟨p, 0, none⟩)] w fun e w' => e = .returned (.tuple #[.int .i64 (l.getD t 0), .nilIface]) ∧ Alc w' base p m A n c l (t + 1) ∧ w.grownBy w' (some p) := by
  have NX : Hid (Calls Tryz.prog 89 #[.pointer (some ⟨p, 0, none⟩)] w fun e w' => e = .returned (.tuple #[.int .i64 (l.getD t 0), .nilIface]) ∧ Hid (Alc w' base p m A n c l t) ∧ Below w.heap.size w w') := (next_some16 h ht).mono fun e w' ⟨h1, h2⟩ => ⟨h1, h.later h2, h2⟩
  have TK : Hid (∀ W, Alc W base p m A n c l t → Calls Tryz.prog 105 #[.pointer (some ⟨p, 2, none⟩)] W fun e w' => e = .returned (.tuple #[]) ∧ Hid (Alc w' base p m A n c l (t + 1)) ∧ W.grownBy w' (some p)) := fun W hW => take16 hW ht
  clear h ht
  generalize l.getD t 0 = x at *
  go_enter Tryz.func91, Tryz.ntmps91
  go_wp2_with (first
    | (go_at_call 89; (with_reducible refine (NX.out).mono ?_); rintro e w1 ⟨rfl, ha, hb⟩)
    | (go_at_call 105; (with_reducible refine (TK.out _ ha.out).mono ?_); rintro e w2 ⟨rfl, ha2, hg2⟩))
  go_ret2
  exact ⟨rfl, ha2.out, grown_trans (grown_below hb _) hg2⟩

/-- all but two blocks as it was -/
structure Fr2 (w w' : World) (r1 r2 : Option Nat) : Prop where
  os : w'.os = w.os
  tape : w'.tape = w.tape
  output : w'.output = w.output
  size : w.heap.size ≤ w'.heap.size
  block : ∀ k, k < w.heap.size → some k ≠ r1 → some k ≠ r2 → w'.heap[k]? = w.heap[k]?
theorem Fr2.of_below {w w' : World} (h : Below w.heap.size w w') (r1 r2 : Option Nat) : Fr2 w w' r1 r2 := ⟨h.os, h.tape, h.output, h.size, fun k hk _ _ => h.block k hk⟩
theorem Fr2.of_one {w w' : World} {r1 : Option Nat} (h : w.grownBy w' r1) (r2 : Option Nat) : Fr2 w w' r1 r2 := ⟨h.os, h.tape, h.output, h.size, fun k hk h1 _ => h.block k hk h1⟩
theorem Fr2.of_two {a b c : World} {r1 r2 : Option Nat} (h : a.grownBy b r1) (k : b.grownBy c r2) : Fr2 a c r1 r2 := ⟨k.os.trans h.os, k.tape.trans h.tape, k.output.trans h.output, Nat.le_trans h.size k.size, fun i hi h1 h2 => (k.block i (Nat.lt_of_lt_of_le hi h.size) h2).trans (h.block i hi h1)⟩
theorem Fr2.swap {w w' : World} {r1 r2 : Option Nat} (h : Fr2 w w' r1 r2) : Fr2 w w' r2 r1 := ⟨h.os, h.tape, h.output, h.size, fun k hk h1 h2 => h.block k hk h2 h1⟩
theorem Fr2.trans {a b c : World} {r1 r2 : Option Nat} (h : Fr2 a b r1 r2) (k : Fr2 b c r1 r2) : Fr2 a c r1 r2 := ⟨k.os.trans h.os, k.tape.trans h.tape, k.output.trans h.output, Nat.le_trans h.size k.size, fun i hi h1 h2 => (k.block i (Nat.lt_of_lt_of_le hi h.size) h1 h2).trans (h.block i hi h1 h2)⟩
theorem Fr2.two {w w' : World} {r1 r2 : Option Nat} {g : Nat} (h : Fr2 w w' r1 r2) (hg : w.heap.size ≤ g) (a b : Value) : Fr2 w ((w'.setCell ⟨g, 0, none⟩ a).setCell ⟨g, 1, none⟩ b) r1 r2 :=
  ⟨h.os, h.tape, h.output, by simpa [World.setCell] using h.size, fun k hk h1 h2 => by
    rw [heap_setCell_other _ _ k _ (by show k ≠ g; omega), heap_setCell_other _ _ k _ (by show k ≠ g; omega)]
    exact h.block k hk h1 h2⟩

/-- an allocator and its image -/
structure AImg (w : World) (base p m B g : Nat) (A : Option Addr) (n c : Nat) (l : List Int) (t : Nat) (L : List UInt8) : Prop where
  alc : Alc w base p m A n c l t
  img : Img w B m g L
  mlt : m < base
  glt : g < base
end
theorem AImg.later {w w' : World} {base p m B g : Nat} {A : Option Addr} {n c : Nat} {l : List Int} {t : Nat} {L : List UInt8} (h : AImg w base p m B g A n c l t L) (hb : Below w.heap.size w w') : AImg w' base p m B g A n c l t L := ⟨h.alc.later hb, h.img.later hb, h.mlt, h.glt⟩

section
variable {w : World} {base p m B g : Nat} {A : Option Addr} {n c : Nat} {l : List Int} {t : Nat} {L : List UInt8}
theorem AImg.next (h : AImg w base p m B g A n c l t L) (ht : t < n) : Calls Tryz.prog 91 #[.pointer (some ⟨p, 0, none⟩)] w fun e w' => e = .returned (.tuple #[.int .i64 (l.getD t 0), .nilIface]) ∧ AImg w' base p m B g A n c l (t + 1) L ∧ w.grownBy w' (some p) :=
  (Next_some16 h.alc ht).mono fun e w' ⟨h1, h2, h3⟩ => ⟨h1, ⟨h2, ⟨h.img.bp, h.img.bg, h.img.ne, (h3.block m h.img.plt (fun e => by injection e with e; have := h.mlt; have := h.alc.bp; omega)).trans h.img.hp, (h3.block g h.img.glt (fun e => by injection e with e; have := h.glt; have := h.alc.bp; omega)).trans h.img.hg, h.img.most⟩, h.mlt, h.glt⟩, h3⟩

/-- a block is left, and it is written -/
theorem Lay_good16 {q : Nat} (kind : Int) {Ai : Option Addr} {ni ci : Nat} {li : List UInt8} (h : AImg w base p m B g A n c l t L) (hL : L.length = q * 256) (ht : t < n) (hB : Bytes8 w Ai ni ci li) (hx : wrE11 q (l.getD t 0) kind li = 0) :
    Calls Tryz.prog 72 #[.pointer (some ⟨p, 0, none⟩), .int .i64 kind, .slice Ai ni ci] w fun e w' => e = .returned (.tuple #[.int .i64 (l.getD t 0), .nilIface]) ∧ AImg w' base p m B g A n c l (t + 1) (wrL11 L q (l.getD t 0) kind li) ∧ ∃ W, w.grownBy W (some g) ∧ W.grownBy w' (some p) := by
  have NX : Hid (Calls Tryz.prog 89 #[.pointer (some ⟨p, 0, none⟩)] w fun e w' => e = .returned (.tuple #[.int .i64 (l.getD t 0), .nilIface]) ∧ w'.cell? ⟨p, 1, none⟩ = some (.pointer (some ⟨m, 0, none⟩)) ∧ Below w.heap.size w w') := (next_some16 h.alc ht).mono fun e w' ⟨h1, h2⟩ => ⟨h1, (h.alc.later h2).cell1, h2⟩
  have WR : Hid (∀ W, Below w.heap.size w W → Calls Tryz.prog 90 #[.pointer (some ⟨m, 0, none⟩), .int .i64 (l.getD t 0), .int .i64 kind, .slice Ai ni ci] W fun e w' => e = .returned .nilIface ∧ Hid (AImg w' base p m B g A n c l t (wrL11 L q (l.getD t 0) kind li)) ∧ W.grownBy w' (some g)) := fun W hW => by
    refine (blockWrite_any (l.getD t 0) kind (h.later hW).img hL (hB.below hW)).mono ?_
    rintro e w' ⟨v, h1, h2, h3, h4⟩
    have hv : v = .nilIface := by
      rcases h2 with ⟨_, h⟩ | ⟨h, _⟩
      · exact h
      · exact absurd hx h
    subst hv
    exact ⟨h1, ⟨(h.later hW).alc.grown h4 h.glt, h3, h.mlt, h.glt⟩, h4⟩
  have NE : Hid (∀ W L', AImg W base p m B g A n c l t L' → Calls Tryz.prog 91 #[.pointer (some ⟨p, 0, none⟩)] W fun e w' => e = .returned (.tuple #[.int .i64 (l.getD t 0), .nilIface]) ∧ Hid (AImg w' base p m B g A n c l (t + 1) L') ∧ W.grownBy w' (some p)) := fun W L' hW => hW.next ht
  clear h ht hB hx
  generalize wrL11 L q (l.getD t 0) kind li = L2 at *
  generalize l.getD t 0 = no at *
  go_enter Tryz.func72, Tryz.ntmps72
  go_wp2_with (first
    | (go_at_call 89; (with_reducible refine (NX.out).mono ?_); rintro e w1 ⟨rfl, hc1, hb⟩)
    | (go_at_call 90; (with_reducible refine (WR.out _ hb).mono ?_); rintro e w2 ⟨rfl, hi, hg⟩)
    | (go_at_call 91; (with_reducible refine (NE.out _ _ hi.out).mono ?_); rintro e w3 ⟨rfl, hi3, hg3⟩))
  go_ret2
  exact ⟨rfl, hi3.out, w2, grown_trans (grown_below hb _) hg, hg3⟩
end

/-! ### slices.Clone, Ahead -/
theorem lt_of_own16 {w : World} {base : Nat} {e : TypeId} {size n m c : Nat} {A : Option Addr} {xs : List Value} (h : w.ownsRow base e size (.slice A m c) n xs) : ∀ ad, A = some ad → ad.block < w.heap.size := by
  intro ad e
  subst e
  rcases h.2 with ⟨hv, _⟩ | ⟨g, cap, cur, hv, hg, hh, _⟩
  · cases hv
  · injection hv with h1
    injection h1 with h1
    rw [h1]
    exact block_lt hh
theorem eql_slice16 (A : Option Addr) (n c : Nat) (w : World) : (binOp .eql 31 (.slice A n c) (.slice none 0 0)).run Tryz.prog w = .ok (.bool A.isNone) w := by
  have h : ∀ d : Nat, (Op.equalIn (d + 1) 31 (.slice A n c) (.slice none 0 0)).run Tryz.prog w = .ok A.isNone w := fun d => by
    cases A <;> simp [Op.equalIn, run_underlying Tryz.underlying31]
  simp only [binOp]
  simp [Op.equal, Op.maxDepth, h 9999]
set_option maxRecDepth 100000 in
set_option maxHeartbeats 800000 in
theorem Clone16 {w : World} {A : Option Addr} {n c : Nat} {l : List Int} (h : Ints w A n c l) (hn : n ≤ 17592186044416) :
    Calls Tryz.prog 70 #[.slice A n c] w fun e w' => ∃ A2 c2, e = .returned (.slice A2 n c2) ∧ Ints w' A2 n c2 l ∧ Newer w.heap.size A2 ∧ (∀ ad, A2 = some ad → ad.block < w'.heap.size) ∧ Below w.heap.size w w' := by
  cases A with
  | none =>
    obtain rfl : l = [] := by
      cases l with
      | nil => rfl
      | cons x r => obtain ⟨ad, e, _⟩ := h.row 0 (.int .i64 x) rfl; cases e
    obtain rfl : n = 0 := h.len.symm
    clear h
    have kn : (binOp .eql 31 (.slice none 0 c) (.slice none 0 0)).run Tryz.prog w = .ok (.bool true) w := eql_slice16 none 0 c w
    go_enter Tryz.func70, Tryz.ntmps70
    go_wp2
    go_ret
    exact ⟨none, 0, rfl, Ints.nil _, Newer.nil _, fun ad e => (by cases e), Below.refl _ _⟩
  | some ad =>
    have HI := Lib.hid h
    have hl := h.len
    have HL := Lib.hid hl
    clear h hl
    have kn : (binOp .eql 31 (.slice (some ad) n c) (.slice none 0 0)).run Tryz.prog w = .ok (.bool false) w := eql_slice16 (some ad) n c w
    go_enter Tryz.func70, Tryz.ntmps70
    go_wp2_with (at_builtin; refine wpList_append_row _ rfl _ _ 31 rfl w.heap.size 3 (.int .i64 0) 8 Tryz.underlying31 info_i64 rfl _ 0 [] rfl (own_empty w 3) (by simp) (some ad) (i64s l) n c rfl (by rw [i64s_length]; exact HL.out) (HI.out.row.below ((Below.refl _ _).alloc (Nat.le_refl _) _)) (i64s_one _) (by omega) (by omega) ?_; intro v2 w2 hown2 hs2 hb2)
    have hx := hown2.out
    rw [Nat.zero_add, List.nil_append] at hx
    obtain ⟨A2, c2, rfl, hI2⟩ := Ints.of_own hx
    have hN2 := Newer.of_own hx
    have hT2 := lt_of_own16 hx
    go_ret
    exact ⟨A2, c2, rfl, hI2, hN2, hT2, ((Below.refl w.heap.size w).alloc (Nat.le_refl _) (.cells #[] 3)).trans hb2⟩
end Go.Proofs.YtnjlganofjkpfaaGreatDoor

/-
  Layer 16: Ahead; what a nobody tells; From.
-/
namespace Go.Proofs.YtnjlganofjkpfaaGreatDoor
open Go.RowKit
set_option linter.unusedVariables false
set_option linter.unusedSimpArgs false

section
variable {w : World} {base p m : Nat} {A : Option Addr} {n c : Nat} {l : List Int} {t : Nat}
end

/-! ### nobody -/
section
variable {v : Value} (w : World) (h : No16 w v)
include h
end

/-! ### From -/
/-- is x no block of q that may be handed out? -/
def outR16 (q : Nat) (x : Int) : Bool := decide (x < 1) || decide ((q : Int) ≤ x)
theorem outR16_no {q : Nat} {x : Int} (h : outR16 q x = false) : 1 ≤ x ∧ x < (q : Int) := by
  simp [outR16] at h
  omega
/-- do they rise? -/
def Rises16 (l : List Int) : Prop := ∀ i, i + 1 < l.length → l.getD i 0 < l.getD (i + 1) 0

set_option maxRecDepth 100000 in
theorem out_any16 {B m g q : Nat} {L : List UInt8} (bx : Nat) (x : Int) (w : World) (hI : Img w B m g L) (hL : L.length = q * 256) (hbx : w.cell? ⟨bx, 0, none⟩ = some (.pointer (some ⟨m, 0, none⟩))) :
    Calls Tryz.prog 69 #[.int .i64 x, .pointer (some ⟨bx, 0, none⟩)] w fun e w' => e = .returned (.bool (outR16 q x)) ∧ w = w' := by
  have BK := Lib.hid (Blocks_img w hI hL)
  clear hI hL
  by_cases h1 : x < 1
  · rw [show outR16 q x = true by simp [outR16, h1]]
    go_enter Tryz.func69, Tryz.ntmps69
    go_wp2
    go_ret
    exact ⟨rfl, rfl⟩
  · have e : outR16 q x = decide ((q : Int) ≤ x) := by simp [outR16, h1]
    rw [e]
    go_enter Tryz.func69, Tryz.ntmps69
    go_wp2_with (go_at_call 43; (with_reducible refine (BK.out).mono ?_); rintro e w1 ⟨rfl, rfl⟩)
    go_ret
    exact ⟨rfl, rfl⟩

set_option maxRecDepth 100000 in
theorem IndexFunc16 {A : Option Addr} {n c : Nat} {l : List Int} (bx : Nat) (f : Int → Bool) (w : World) (h : Ints w A n c l)
    (hf : ∀ x, Calls Tryz.prog 69 #[.int .i64 x, .pointer (some ⟨bx, 0, none⟩)] w fun e w' => e = .returned (.bool (f x)) ∧ w = w') :
    Calls Tryz.prog 85 #[.slice A n c, .func (.func 69) #[] #[.pointer (some ⟨bx, 0, none⟩)]] w fun e w' => ∃ i : Int, e = .returned (.int .i64 i) ∧ (0 ≤ i ↔ l.any f = true) ∧ w = w' := by
  have hl := h.len
  have hle := h.le
  have HI := Lib.hid h
  have HL := Lib.hid hl
  have HF := Lib.hid hf
  clear h hl hf
  go_enter Tryz.func85, Tryz.ntmps85
  go_wp2
  go_loopw [8] (fun i wr => ∃ k : Nat, k ≤ n ∧ i = .int .i64 k ∧ wr = w ∧ Hid ((l.take k).any f = false)) (fun i _ => n - (intOf i).toNat)
  case atStart => exact ⟨0, by omega, rfl, rfl, by simp [Hid]⟩
  case round =>
    obtain ⟨k, hk, rfl, rfl, hno⟩ := hrel
    by_cases hlt : k < n
    · have hkl : k < l.length := by have := HL.out; omega
      obtain ⟨b, off, rfl, hb, hc⟩ := HI.out.row.lit (by rw [i64s_length]; omega)
      have hck := hc k _ (i64s_at l k hkl)
      have HT := Lib.hid (List.take_succ_eq_append_getElem hkl)
      have HM := Lib.hid (List.getElem_mem hkl)
      clear hc
      generalize l[k] = x at *
      cases hx : f x with
      | true =>
        have FX : Hid (Calls Tryz.prog 69 #[.int .i64 x, .pointer (some ⟨bx, 0, none⟩)] wr fun e w' => e = .returned (.bool true) ∧ wr = w') := by have := HF.out x; rwa [hx] at this
        have HX := Lib.hid hx
        clear hx
        go_wp2_with (go_at_call 69; (with_reducible refine (FX.out).mono ?_); rintro e w1 ⟨rfl, rfl⟩)
        go_ret
        exact ⟨_, rfl, ⟨fun _ => List.any_eq_true.2 ⟨x, HM.out, HX.out⟩, fun _ => by omega⟩, rfl⟩
      | false =>
        have FX : Hid (Calls Tryz.prog 69 #[.int .i64 x, .pointer (some ⟨bx, 0, none⟩)] wr fun e w' => e = .returned (.bool false) ∧ wr = w') := by have := HF.out x; rwa [hx] at this
        have HX := Lib.hid hx
        clear hx
        go_wp2_with (go_at_call 69; (with_reducible refine (FX.out).mono ?_); rintro e w1 ⟨rfl, rfl⟩)
        go_roundw
        case rel =>
          refine ⟨k + 1, by omega, by go_num, by first | rfl | trivial, ?_⟩
          show _ = _
          rw [HT.out, List.any_append, hno.out]
          simp [HX.out]
        case measure => simp only [intOf]; omega
    · obtain rfl : k = n := by omega
      go_wp2
      go_ret
      refine ⟨_, rfl, ⟨fun h => by omega, fun hm => ?_⟩, rfl⟩
      have := hno.out
      rw [List.take_of_length_le (by have := HL.out; omega)] at this
      rw [this] at hm
      cases hm

set_option maxRecDepth 100000 in
theorem ContainsFunc16 {A : Option Addr} {n c : Nat} {l : List Int} (bx : Nat) (f : Int → Bool) (w : World) (h : Ints w A n c l)
    (hf : ∀ x, Calls Tryz.prog 69 #[.int .i64 x, .pointer (some ⟨bx, 0, none⟩)] w fun e w' => e = .returned (.bool (f x)) ∧ w = w') :
    Calls Tryz.prog 68 #[.slice A n c, .func (.func 69) #[] #[.pointer (some ⟨bx, 0, none⟩)]] w fun e w' => e = .returned (.bool (l.any f)) ∧ w = w' := by
  have IX := Lib.hid (IndexFunc16 bx f w h hf)
  clear h hf
  cases hm : l.any f with
  | true =>
    have HM := Lib.hid hm
    clear hm
    go_enter Tryz.func68, Tryz.ntmps68
    go_wp2_with (go_at_call 85; (with_reducible refine (IX.out).mono ?_); rintro e w1 ⟨i, rfl, hi, rfl⟩; have hi0 : 0 ≤ i := hi.2 HM.out; clear hi)
    go_ret
    exact ⟨rfl, rfl⟩
  | false =>
    have HM := Lib.hid hm
    clear hm
    go_enter Tryz.func68, Tryz.ntmps68
    go_wp2_with (go_at_call 85; (with_reducible refine (IX.out).mono ?_); rintro e w1 ⟨i, rfl, hi, rfl⟩; have hi0 : decide (0 ≤ i) = false := decide_eq_false (fun h => by have := hi.1 h; rw [HM.out] at this; cases this); clear hi)
    go_ret
    exact ⟨rfl, rfl⟩

end Go.Proofs.YtnjlganofjkpfaaGreatDoor

/-
  Layer 16: From, New.
-/
namespace Go.Proofs.YtnjlganofjkpfaaGreatDoor
open Go.RowKit
set_option linter.unusedVariables false
set_option linter.unusedSimpArgs false

theorem build_queue16 (A : Option Addr) (n c : Nat) (w : World) : (Instr.build 83 #[(0, .slice A n c)]).run Tryz.prog w = .ok (.agg #[.slice A n c, .int .i64 0]) w := run_build w _ _ _ (by kernel_rfl)
theorem build_alloc16 (m : Nat) (A : Option Addr) (n c : Nat) (w : World) : (Instr.build 85 #[(1, .pointer (some ⟨m, 0, none⟩)), (2, .agg #[.slice A n c, .int .i64 0])]).run Tryz.prog w = .ok (.agg #[.pointer none, .pointer (some ⟨m, 0, none⟩), .slice A n c, .int .i64 0]) w := run_build w _ _ _ (by kernel_rfl)

theorem Alc.new {w : World} {base m n c : Nat} {A : Option Addr} {l : List Int} (hI : Ints w A n c l) (hN : Newer base A) (hT : ∀ ad, A = some ad → ad.block < w.heap.size) (hb : base ≤ w.heap.size) :
    Alc (w.alloc (.cells #[.pointer (some ⟨w.heap.size, 0, none⟩), .pointer (some ⟨m, 0, none⟩), .slice A n c, .int .i64 0] 85)) base w.heap.size m A n c l 0 :=
  ⟨hb, heap_alloc_new w _, hI.below ((Below.refl _ _).alloc (Nat.le_refl _) _), Nat.zero_le _, fun ad e => ⟨hN ad e, hT ad e⟩⟩

section
variable {w : World} {B m g q : Nat} {L : List UInt8} {A : Option Addr} {n c : Nat} {l : List Int}
/-- the image's variable in its box -/
theorem box16 (hI : Img w B m g L) (hL : L.length = q * 256) (h : Ints w A n c l) (W : World) (hb : Below (w.heap.size + 1) (w.alloc (.cells #[.pointer (some ⟨m, 0, none⟩)] 49)) W) :
    Calls Tryz.prog 68 #[.slice A n c, .func (.func 69) #[] #[.pointer (some ⟨w.heap.size, 0, none⟩)]] W fun e w' => e = .returned (.bool (l.any (outR16 q))) ∧ W = w' := by
  have h1 : W.cell? ⟨w.heap.size, 0, none⟩ = some (.pointer (some ⟨m, 0, none⟩)) := by
    rw [hb.cell (p := ⟨w.heap.size, 0, none⟩) (by simp)]
    exact cell_of_row _ _ 0 _ _ _ (heap_alloc_new w _)
  have hw : Below w.heap.size w W := ((Below.refl _ _).alloc (Nat.le_refl _) _).trans (hb.mono (by omega))
  exact ContainsFunc16 _ _ W (h.below hw) (fun x => out_any16 _ x W (hI.later hw) hL h1)

set_option maxRecDepth 100000 in
theorem From_bad16 (hI : Img w B m g L) (hL : L.length = q * 256) (h : Ints w A n c l) (ho : l.any (outR16 q) = true) :
    Calls Tryz.prog 44 #[.pointer (some ⟨m, 0, none⟩), .slice A n c] w fun e w' => e = .returned (.tuple #[.pointer none, .iface 40 (.int .i64 1)]) ∧ Below w.heap.size w w' := by
  have CF := Lib.hid (box16 hI hL h _ (Below.refl _ _))
  rw [ho] at CF
  have hb : Below w.heap.size w (w.alloc (.cells #[.pointer (some ⟨m, 0, none⟩)] 49)) := (Below.refl _ _).alloc (Nat.le_refl _) _
  have hc : (w.alloc (.cells #[.pointer (some ⟨m, 0, none⟩)] 49)).cell? ⟨w.heap.size, 0, none⟩ = some (.pointer (some ⟨m, 0, none⟩)) := cell_of_row _ _ 0 _ _ _ (heap_alloc_new w _)
  clear hI hL h ho
  go_enter Tryz.func44, Tryz.ntmps44
  go_wp2_with (go_at_call 68; (with_reducible refine (CF.out).mono ?_); rintro e w1 ⟨rfl, rfl⟩)
  go_ret2
  exact ⟨rfl, hb⟩

set_option maxRecDepth 100000 in
set_option maxHeartbeats 1600000 in
theorem From_order16 (hI : Img w B m g L) (hL : L.length = q * 256) (h : Ints w A n c l) (ho : l.any (outR16 q) = false) (hr : ¬ Rises16 l) :
    Calls Tryz.prog 44 #[.pointer (some ⟨m, 0, none⟩), .slice A n c] w fun e w' => e = .returned (.tuple #[.pointer none, .iface 40 (.int .i64 8)]) ∧ Below w.heap.size w w' := by
  have CF := Lib.hid (box16 hI hL h _ (Below.refl _ _))
  rw [ho] at CF
  have hb : Below w.heap.size w (w.alloc (.cells #[.pointer (some ⟨m, 0, none⟩)] 49)) := (Below.refl _ _).alloc (Nat.le_refl _) _
  have hc : (w.alloc (.cells #[.pointer (some ⟨m, 0, none⟩)] 49)).cell? ⟨w.heap.size, 0, none⟩ = some (.pointer (some ⟨m, 0, none⟩)) := cell_of_row _ _ 0 _ _ _ (heap_alloc_new w _)
  obtain ⟨w0, hw0⟩ : ∃ w0, w.alloc (.cells #[.pointer (some ⟨m, 0, none⟩)] 49) = w0 := ⟨_, rfl⟩
  rw [hw0] at hb hc CF
  have HI := Lib.hid (h.below hb)
  have hle := h.le
  have HL := Lib.hid h.len
  have HR := Lib.hid hr
  have HB := Lib.hid hb
  clear hI hL h ho hr hb
  go_enter Tryz.func44, Tryz.ntmps44
  go_wp2_with (go_at_call 68; (with_reducible refine (CF.out).mono ?_); rintro e w1 ⟨rfl, rfl⟩)
  go_loopw [6] (fun i wr => ∃ j : Nat, (j + 1 ≤ n ∨ j = 0) ∧ i = .int .i64 ((j : Int) + 1) ∧ Hid (Below w0.heap.size w0 wr) ∧ Hid (∀ i, i + 1 < j + 1 → l.getD i 0 < l.getD (i + 1) 0)) (fun i _ => n - (intOf i).toNat)
  case atStart => exact ⟨0, .inr rfl, by go_num, Below.refl _ _, fun i hi => by omega⟩
  case round =>
    obtain ⟨j, hj, rfl, hbr, hrs⟩ := hrel
    by_cases hlt : j + 1 < n
    · have hkl : j + 1 < l.length := by have := HL.out; omega
      obtain ⟨b, off, rfl, hbl, hcc⟩ := HI.out.row.lit (by rw [i64s_length]; omega)
      have hc0 : wr.cell? ⟨b, off + j, none⟩ = some (.int .i64 (l.getD j 0)) := by
        rw [hbr.out.cell (p := ⟨b, off + j, none⟩) hbl, hcc j _ (i64s_at l j (by omega))]
        simp [List.getD_eq_getElem?_getD, List.getElem?_eq_getElem (show j < l.length by omega)]
      have hc1 : wr.cell? ⟨b, off + (j + 1), none⟩ = some (.int .i64 (l.getD (j + 1) 0)) := by
        rw [hbr.out.cell (p := ⟨b, off + (j + 1), none⟩) hbl, hcc (j + 1) _ (i64s_at l (j + 1) hkl)]
        simp [List.getD_eq_getElem?_getD, List.getElem?_eq_getElem hkl]
      clear hcc
      by_cases hx : l.getD (j + 1) 0 ≤ l.getD j 0
      · generalize l.getD (j + 1) 0 = x1 at *
        generalize l.getD j 0 = x0 at *
        have hd : decide (x1 ≤ x0) = true := decide_eq_true hx
        go_wp2
        go_quiet (fail)
        go_wp2
        go_ret2
        exact ⟨rfl, HB.out.trans (below_drewN (hbr.out.mono HB.out.size) _)⟩
      · have HX : Hid (∀ i, i + 1 < j + 1 + 1 → l.getD i 0 < l.getD (i + 1) 0) := fun i hi => by
          by_cases he : i = j
          · subst he; omega
          · exact hrs.out i (by omega)
        generalize l.getD (j + 1) 0 = x1 at hc1 hx
        generalize l.getD j 0 = x0 at hc0 hx
        have hd : decide (x1 ≤ x0) = false := decide_eq_false hx
        go_wp2
        go_quiet (fail)
        go_wp2
        go_roundw
        case rel => exact ⟨j + 1, by omega, by go_num, below_drewN hbr.out _, HX⟩
        case measure => simp only [intOf]; omega
    · exact absurd (fun i hi => hrs.out i (by have := HL.out; omega)) HR.out
set_option maxRecDepth 100000 in
set_option maxHeartbeats 1600000 in
theorem From_good16 (hI : Img w B m g L) (hL : L.length = q * 256) (h : Ints w A n c l) (ho : l.any (outR16 q) = false) (hr : Rises16 l) (hn : n ≤ 1000000) :
    Calls Tryz.prog 44 #[.pointer (some ⟨m, 0, none⟩), .slice A n c] w fun e w' => ∃ p A2 c2, e = .returned (.tuple #[.pointer (some ⟨p, 0, none⟩), .nilIface]) ∧ Alc w' w.heap.size p m A2 n c2 l 0 ∧ Below w.heap.size w w' := by
  have CF := Lib.hid (box16 hI hL h _ (Below.refl _ _))
  rw [ho] at CF
  have hb : Below w.heap.size w (w.alloc (.cells #[.pointer (some ⟨m, 0, none⟩)] 49)) := (Below.refl _ _).alloc (Nat.le_refl _) _
  have hc : (w.alloc (.cells #[.pointer (some ⟨m, 0, none⟩)] 49)).cell? ⟨w.heap.size, 0, none⟩ = some (.pointer (some ⟨m, 0, none⟩)) := cell_of_row _ _ 0 _ _ _ (heap_alloc_new w _)
  obtain ⟨w0, hw0⟩ : ∃ w0, w.alloc (.cells #[.pointer (some ⟨m, 0, none⟩)] 49) = w0 := ⟨_, rfl⟩
  rw [hw0] at hb hc CF
  have HI := Lib.hid (h.below hb)
  have hle := h.le
  have HL := Lib.hid h.len
  have HR := Lib.hid hr
  have HB := Lib.hid hb
  clear hI hL h ho hr hb
  go_enter Tryz.func44, Tryz.ntmps44
  go_wp2_with (go_at_call 68; (with_reducible refine (CF.out).mono ?_); rintro e w1 ⟨rfl, rfl⟩)
  go_loopw [6] (fun i wr => ∃ j : Nat, (j + 1 ≤ n ∨ j = 0) ∧ i = .int .i64 ((j : Int) + 1) ∧ Hid (Below w0.heap.size w0 wr)) (fun i _ => n - (intOf i).toNat)
  case atStart => exact ⟨0, .inr rfl, by go_num, Below.refl _ _⟩
  case round =>
    obtain ⟨j, hj, rfl, hbr⟩ := hrel
    by_cases hlt : j + 1 < n
    · have hkl : j + 1 < l.length := by have := HL.out; omega
      obtain ⟨b, off, rfl, hbl, hcc⟩ := HI.out.row.lit (by rw [i64s_length]; omega)
      have hc0 : wr.cell? ⟨b, off + j, none⟩ = some (.int .i64 (l.getD j 0)) := by
        rw [hbr.out.cell (p := ⟨b, off + j, none⟩) hbl, hcc j _ (i64s_at l j (by omega))]
        simp [List.getD_eq_getElem?_getD, List.getElem?_eq_getElem (show j < l.length by omega)]
      have hc1 : wr.cell? ⟨b, off + (j + 1), none⟩ = some (.int .i64 (l.getD (j + 1) 0)) := by
        rw [hbr.out.cell (p := ⟨b, off + (j + 1), none⟩) hbl, hcc (j + 1) _ (i64s_at l (j + 1) hkl)]
        simp [List.getD_eq_getElem?_getD, List.getElem?_eq_getElem hkl]
      clear hcc
      have hx := HR.out j hkl
      generalize l.getD (j + 1) 0 = x1 at hc1 hx
      generalize l.getD j 0 = x0 at hc0 hx
      have hd : decide (x1 ≤ x0) = false := decide_eq_false (by omega)
      go_wp2
      go_quiet (fail)
      go_wp2
      go_roundw
      case rel => exact ⟨j + 1, by omega, by go_num, below_drewN hbr.out _⟩
      case measure => simp only [intOf]; omega
    · have hcb : wr.cell? ⟨w.heap.size, 0, none⟩ = some (.pointer (some ⟨m, 0, none⟩)) := (hbr.out.cell (p := ⟨w.heap.size, 0, none⟩) (cell_lt hc)).trans hc
      have hcd := hcb
      rw [← World.cell?_drew] at hcd
      have hbw := HB.out.trans (hbr.out.mono HB.out.size)
      have hIr := HI.out.below hbr.out
      have CL : Hid (∀ W, Below wr.heap.size wr W → Calls Tryz.prog 70 #[.slice A n c] W fun e w' => ∃ A2 c2, e = .returned (.slice A2 n c2) ∧ Hid (Ints w' A2 n c2 l) ∧ Hid (Newer w.heap.size A2) ∧ Hid (∀ ad, A2 = some ad → ad.block < w'.heap.size) ∧ Below wr.heap.size wr w' ∧ w'.cell? ⟨w.heap.size, 0, none⟩ = some (.pointer (some ⟨m, 0, none⟩))) := fun W hW => (Clone16 (hIr.below hW) (by omega)).mono fun e w' ⟨A2, c2, h1, h2, h3, h3', h4⟩ => by
        have h5 := hW.trans (h4.mono hW.size)
        exact ⟨A2, c2, h1, h2, h3.mono (Nat.le_trans hbw.size hW.size), h3', h5, (h5.cell (p := ⟨w.heap.size, 0, none⟩) (cell_lt hcb)).trans hcb⟩
      have HBW := Lib.hid hbw
      have hdr : Below wr.heap.size wr wr.drew := (Below.refl _ _).drew
      have kq := build_queue16
      have ka := build_alloc16
      clear hbr hbw hIr HI HB HL HR CF
      go_wp2
      go_region_with (first
        | (go_at_call 70; (with_reducible refine (CL.out _ hdr).mono ?_); rintro e w5 ⟨A2, c2, rfl, hI2, hN2, hT2, hb2, hc2⟩))
      all_goals go_wp2
      all_goals go_ret2
      all_goals exact ⟨_, A2, c2, rfl, Alc.new hI2.out hN2.out hT2.out (Nat.le_trans HBW.out.size hb2.size), (HBW.out.trans (hb2.mono HBW.out.size)).alloc (Nat.le_trans HBW.out.size hb2.size) _⟩
end
end Go.Proofs.YtnjlganofjkpfaaGreatDoor

/-
  Layer 16: New.
-/
namespace Go.Proofs.YtnjlganofjkpfaaGreatDoor
open Go.RowKit
set_option linter.unusedVariables false
set_option linter.unusedSimpArgs false

/-- the blocks from f on, below q -/
def seq16 (f q : Nat) : List Int := (List.range' f (q - f)).map Int.ofNat
theorem seq16_length (f q : Nat) : (seq16 f q).length = q - f := by simp [seq16]
theorem seq16_start (f : Nat) : seq16 f f = [] := by simp [seq16]
theorem seq16_succ {f k : Nat} (h : f ≤ k) : seq16 f (k + 1) = seq16 f k ++ [(k : Int)] := by
  unfold seq16
  rw [show k + 1 - f = (k - f) + 1 by omega, List.range'_concat, List.map_append]
  simp
  omega
theorem seq16_getD {f q i : Nat} (h : i < q - f) : (seq16 f q).getD i 0 = ((f + i : Nat) : Int) := by
  have hl : i < (seq16 f q).length := by rw [seq16_length]; exact h
  simp only [List.getD_eq_getElem?_getD, List.getElem?_eq_getElem hl, Option.getD_some]
  simp [seq16]
theorem seq16_rises (f q : Nat) : Rises16 (seq16 f q) := fun i hi => by
  rw [seq16_length] at hi
  rw [seq16_getD (by omega), seq16_getD (by omega)]
  omega
theorem seq16_in {f q : Nat} (h : 1 ≤ f) : (seq16 f q).any (outR16 q) = false := by
  rw [List.any_eq_false]
  intro x hx
  obtain ⟨j, hj, rfl⟩ := List.mem_map.1 hx
  rw [List.mem_range'_1] at hj
  simp [outR16]
  omega

section
variable {w : World} {B m g q : Nat} {L : List UInt8}
theorem New_bad16 (f : Int) (hI : Img w B m g L) (hL : L.length = q * 256) (hf : f < 1 ∨ (q : Int) < f) : Calls Tryz.prog 22 #[.pointer (some ⟨m, 0, none⟩), .int .i64 f] w fun e w' => e = .returned (.tuple #[.pointer none, .iface 40 (.int .i64 1)]) ∧ w = w' := by
  have BK := Lib.hid (Blocks_img w hI hL)
  clear hI hL
  by_cases h1 : f < 1
  · go_enter Tryz.func22, Tryz.ntmps22
    go_wp2
    go_ret2
    exact ⟨rfl, rfl⟩
  · have h2 : (q : Int) < f := by omega
    go_enter Tryz.func22, Tryz.ntmps22
    go_wp2_with (go_at_call 43; (with_reducible refine (BK.out).mono ?_); rintro e w1 ⟨rfl, rfl⟩)
    go_ret2
    exact ⟨rfl, rfl⟩

set_option maxRecDepth 100000 in
set_option maxHeartbeats 1600000 in
theorem New_good16 (f : Nat) (hI : Img w B m g L) (hL : L.length = q * 256) (h1 : 1 ≤ f) (h2 : f ≤ q) :
    Calls Tryz.prog 22 #[.pointer (some ⟨m, 0, none⟩), .int .i64 (f : Int)] w fun e w' => ∃ p A2 c2, e = .returned (.tuple #[.pointer (some ⟨p, 0, none⟩), .nilIface]) ∧ Alc w' w.heap.size p m A2 (q - f) c2 (seq16 f q) 0 ∧ Below w.heap.size w w' := by
  have hq : q ≤ 14400 := by have := hI.most; omega
  have BK : Hid (∀ W, Below w.heap.size w W → Calls Tryz.prog 43 #[.pointer (some ⟨m, 0, none⟩)] W fun e w' => e = .returned (.int .i64 (q : Int)) ∧ W = w') := fun W hW => Blocks_img W (hI.later hW) hL
  have FG : Hid (∀ W A c, Below w.heap.size w W → Ints W A (q - f) c (seq16 f q) → Calls Tryz.prog 44 #[.pointer (some ⟨m, 0, none⟩), .slice A (q - f) c] W fun e w' => ∃ p A2 c2, e = .returned (.tuple #[.pointer (some ⟨p, 0, none⟩), .nilIface]) ∧ Hid (Alc w' w.heap.size p m A2 (q - f) c2 (seq16 f q) 0) ∧ Below w.heap.size w w') := fun W A c hW hl => (From_good16 (hI.later hW) hL hl (seq16_in h1) (seq16_rises f q) (by omega)).mono fun e w' ⟨p, A2, c2, h1, h2, h3⟩ => ⟨p, A2, c2, h1, ⟨Nat.le_trans hW.size h2.bp, h2.hp, h2.ints, h2.le, fun ad e => ⟨Nat.le_trans hW.size (h2.low ad e).1, (h2.low ad e).2⟩⟩, hW.trans (h3.mono hW.size)⟩
  clear hI hL
  have hW0 : Below w.heap.size w w := Below.refl _ _
  have hd1 : decide ((f : Int) < 1) = false := decide_eq_false (by omega)
  have hd2 : decide ((q : Int) < (f : Int)) = false := decide_eq_false (by omega)
  have hd3 : decide (q < f) = false := decide_eq_false (by omega)
  go_enter Tryz.func22, Tryz.ntmps22
  go_wp2_with (go_at_call 43; (with_reducible refine (BK.out _ hW0).mono ?_); rintro e w1 ⟨rfl, rfl⟩)
  go_loopw [6, 7] (fun s i wr => ∃ k : Nat, f ≤ k ∧ k ≤ q ∧ i = .int .i64 k ∧ Below w.heap.size w wr ∧ Hid (wr.ownsRow w.heap.size 3 1 s (k - f) (i64s (seq16 f k)))) (fun _ i _ => q - (intOf i).toNat)
  case atStart => exact ⟨f, Nat.le_refl _, h2, rfl, hW0, by rw [seq16_start, Nat.sub_self]; exact World.ownsRow_nil _ _ _ _⟩
  case round =>
    obtain ⟨k, hk1, hk2, rfl, hbr, ho⟩ := hrel
    by_cases hlt : k < q
    · go_wp2_with (first
        | (go_at_call 43; (with_reducible refine (BK.out _ hbr).mono ?_); rintro e w1 ⟨rfl, rfl⟩)
        | (at_builtin; refine wpList_append_new wr rfl _ _ 31 rfl w.heap.size 3 3 (.int .i64 0) 8 Tryz.underlying31 info_i64 rfl u6 (k - f) _ rfl ho hbr.size [.int .i64 (k : Int)] 1 1 rfl rfl (i64s_one [(k : Int)]) (by omega) (by omega) ?_; intro v2 w2 hown2 hs2 hb2))
      go_roundw
      case rel =>
        have hx := hown2.out
        rw [show i64s (seq16 f k) ++ [.int .i64 (k : Int)] = i64s (seq16 f (k + 1)) by rw [seq16_succ hk1, i64s_append]; rfl, show k - f + 1 = k + 1 - f by omega] at hx
        exact ⟨k + 1, by omega, by omega, by go_num, hbr.trans hb2, hx⟩
      case measure => simp only [intOf]; omega
    · obtain rfl : k = q := by omega
      obtain ⟨A1, c1, rfl, hI1⟩ := Ints.of_own ho.out
      have HI1 := Lib.hid hI1
      clear hI1 ho
      go_wp2_with (first
        | (go_at_call 43; (with_reducible refine (BK.out _ hbr).mono ?_); rintro e w1 ⟨rfl, rfl⟩)
        | (go_at_call 44; (with_reducible refine (FG.out _ _ _ hbr HI1.out).mono ?_); rintro e w2 ⟨p, A2, c2, rfl, ha, hb2⟩))
      go_ret2
      exact ⟨p, A2, c2, rfl, ha.out, hb2⟩
end
end Go.Proofs.YtnjlganofjkpfaaGreatDoor

/-
  Layer 16: the reference's allocator; its From.
-/
namespace Go.Proofs.YtnjlganofjkpfaaGreatDoor
open Go.RowKit
set_option linter.unusedVariables false
set_option linter.unusedSimpArgs false

/-- the reference's allocator at block p: over the image at block m, the blocks fr left, u handed out -/
def RAlc (w : World) (base p m : Nat) (fr : List Int) (u : Nat) : Prop :=
  base ≤ p ∧ ∃ A c, w.heap[p]? = some (.cells #[.pointer (some ⟨m, 0, none⟩), .slice A fr.length c, .int .i64 (u : Int)] 48 (0, 0)) ∧ Ints w A fr.length c fr ∧ ∀ ad, A = some ad → base ≤ ad.block ∧ ad.block < p
section
variable {w w' : World} {base p m : Nat} {fr : List Int} {u : Nat}
theorem RAlc.plt (h : RAlc w base p m fr u) : p < w.heap.size := by
  obtain ⟨_, A, c, h1, _⟩ := h
  exact block_lt h1
theorem RAlc.later (h : RAlc w base p m fr u) (hb : Below w.heap.size w w') : RAlc w' base p m fr u := by
  have := h.plt
  obtain ⟨h0, A, c, h1, h2, h3⟩ := h
  exact ⟨h0, A, c, (hb.block p this).trans h1, h2.below hb, h3⟩
theorem RAlc.grown {g : Option Nat} (h : RAlc w base p m fr u) (hk : w.grownBy w' g) (hg : ∀ k, g = some k → k < base) : RAlc w' base p m fr u := by
  have hp := h.plt
  obtain ⟨h0, A, c, h1, h2, h3⟩ := h
  refine ⟨h0, A, c, (hk.block p hp (fun e => by have := hg p e.symm; omega)).trans h1, ⟨h2.len, h2.cap, h2.most, fun k v e => ?_⟩, h3⟩
  obtain ⟨ad, ea, hc⟩ := h2.row k v e
  refine ⟨ad, ea, ?_⟩
  have hbk : (ad.add k).block = ad.block := addr_add_block ad k
  have := (h3 ad ea).1
  exact (World.cell?_of_block (w := w) (hk.block _ (cell_lt hc) (fun e => by have := hg _ e.symm; omega))).trans hc
theorem RAlc.mono {base' : Nat} (h : RAlc w base p m fr u) (hb : base' ≤ base) : RAlc w base' p m fr u := by
  obtain ⟨h0, A, c, h1, h2, h3⟩ := h
  exact ⟨Nat.le_trans hb h0, A, c, h1, h2, fun ad e => ⟨Nat.le_trans hb (h3 ad e).1, (h3 ad e).2⟩⟩
theorem RAlc.new_two {g : Nat} (h : RAlc w base p m fr u) (hg : p < g) (a b : Value) : RAlc ((w.setCell ⟨g, 0, none⟩ a).setCell ⟨g, 1, none⟩ b) base p m fr u := by
  have hk : ∀ k, k ≠ g → ((w.setCell ⟨g, 0, none⟩ a).setCell ⟨g, 1, none⟩ b).heap[k]? = w.heap[k]? := fun k hk => by
    rw [heap_setCell_other _ _ k _ hk, heap_setCell_other _ _ k _ hk]
  obtain ⟨h0, A, c, h1, h2, h3⟩ := h
  refine ⟨h0, A, c, (hk p (Nat.ne_of_lt hg)).trans h1, ⟨h2.len, h2.cap, h2.most, fun k v e => ?_⟩, h3⟩
  obtain ⟨ad, ea, hc⟩ := h2.row k v e
  refine ⟨ad, ea, ?_⟩
  have hbk : (ad.add k).block = ad.block := addr_add_block ad k
  have := (h3 ad ea).2
  exact (World.cell?_of_block (w := w) (by rw [hbk]; exact hk _ (by omega))).trans hc
theorem RAlc.two {g : Nat} (h : RAlc w base p m fr u) (hg : g < base) (a b : Value) : RAlc ((w.setCell ⟨g, 0, none⟩ a).setCell ⟨g, 1, none⟩ b) base p m fr u :=
  h.grown (g := some g) ⟨rfl, rfl, rfl, by simp [World.setCell], fun k _ hne => by rw [heap_setCell_other _ _ k _ (fun e => hne (by rw [e])), heap_setCell_other _ _ k _ (fun e => hne (by rw [e]))]⟩ (fun k e => by injection e; omega)
theorem RAlc.new {n c : Nat} {A : Option Addr} {l : List Int} (HL : l.length = n) (hI : Ints w A n c l) (hN : Newer base A) (hT : ∀ ad, A = some ad → ad.block < w.heap.size) (hb : base ≤ w.heap.size) :
    RAlc (w.alloc (.cells #[.pointer (some ⟨m, 0, none⟩), .slice A n c, .int .i64 0] 48)) base w.heap.size m l 0 := by
  subst HL
  exact ⟨hb, A, c, heap_alloc_new w _, hI.below ((Below.refl _ _).alloc (Nat.le_refl _) _), fun ad e => ⟨hN ad e, hT ad e⟩⟩
theorem RAlc.cells {A : Option Addr} {n c : Nat} (h1 : w.heap[p]? = some (.cells #[.pointer (some ⟨m, 0, none⟩), .slice A n c, .int .i64 (u : Int)] 48 (0, 0))) :
    w.cell? ⟨p, 0, none⟩ = some (.pointer (some ⟨m, 0, none⟩)) ∧ w.cell? ⟨p, 1, none⟩ = some (.slice A n c) ∧ w.cell? ⟨p, 2, none⟩ = some (.int .i64 (u : Int)) ∧ w.frozen? ⟨p, 1, none⟩ = false ∧ w.frozen? ⟨p, 2, none⟩ = false := by
  refine ⟨?_, ?_, ?_, frozen_of_row w p 1 _ _ h1, frozen_of_row w p 2 _ _ h1⟩
  · rw [cell_of_row w p 0 _ _ _ h1]; rfl
  · rw [cell_of_row w p 1 _ _ _ h1]; rfl
  · rw [cell_of_row w p 2 _ _ _ h1]; rfl
end

/-- a result's variable, all below as it was -/
structure Rx16 (w W : World) : Prop where
  flt : FltAt W w.heap.size (.slice none 0 0) (.int .i64 0)
  bel : Below w.heap.size w W
theorem Rx16.start (w : World) : Rx16 w (w.alloc (.cells #[.slice none 0 0, .int .i64 0] 33)) := ⟨FltAt.new w _ _, (Below.refl _ _).alloc (Nat.le_refl _) _⟩
theorem Rx16.later {w W W' : World} (h : Rx16 w W) (hb : Below W.heap.size W W') : Rx16 w W' := ⟨h.flt.later hb, h.bel.trans (hb.mono h.bel.size)⟩
theorem Rx16.drewN {w W : World} (h : Rx16 w W) (n : Nat) : Rx16 w (W.drewN n) := h.later (below_drewN (Below.refl _ _) n)

section
variable {w : World} {B m q : Nat} {v : Value} {M : List (List UInt8)} {A : Option Addr} {n c : Nat} {l : List Int}

set_option maxRecDepth 100000 in
set_option maxHeartbeats 1600000 in
theorem refFrom_good16 (hI : RImg w B m v M) (hM : M.length = q) (hq : q ≤ 14400) (h : Ints w A n c l) (ho : l.any (outR16 q) = false) (hr : Rises16 l) (hn : n ≤ 1000000) :
    Calls Tryz.prog 24 #[.pointer (some ⟨m, 0, none⟩), .slice A n c] w fun e w' => ∃ p, e = .returned (.tuple #[.pointer (some ⟨p, 0, none⟩), rf none 0 0 0]) ∧ RAlc w' w.heap.size p m l 0 ∧ Below w.heap.size w w' := by
  have hX := Rx16.start w
  obtain ⟨w0, hw0⟩ : ∃ w0, w.alloc (.cells #[.slice none 0 0, .int .i64 0] 33) = w0 := ⟨_, rfl⟩
  rw [hw0] at hX
  have HI := Lib.hid (h.below hX.bel)
  have hle := h.le
  have HL := Lib.hid h.len
  have HM := Lib.hid (hI.later hX.bel)
  have HQ := Lib.hid hM
  have HO := Lib.hid ho
  have HR := Lib.hid hr
  have HX0 := Lib.hid hX
  clear hI h ho hM hr
  simp only [rf]
  go_enter Tryz.func24, Tryz.ntmps24
  go_wp2
  go_loopw [6] (fun i wr => ∃ j : Nat, j ≤ n ∧ i = .int .i64 j ∧ Hid (Below w0.heap.size w0 wr)) (fun i _ => n - (intOf i).toNat)
  case atStart => exact ⟨0, by omega, rfl, Below.refl _ _⟩
  case round =>
    obtain ⟨j, hj, rfl, hbr⟩ := hrel
    by_cases hlt : j < n
    · have hkl : j < l.length := by have := HL.out; omega
      obtain ⟨b, off, rfl, hbl, hcc⟩ := HI.out.row.lit (by rw [i64s_length]; omega)
      have hc0 : wr.cell? ⟨b, off + j, none⟩ = some (.int .i64 l[j]) := (hbr.out.cell (p := ⟨b, off + j, none⟩) hbl).trans (hcc j _ (i64s_at l j hkl))
      obtain ⟨Am, cm, hv, hc1, hc2, hcm, _⟩ := (HM.out.later hbr.out).form
      rw [HQ.out] at hcm hc1
      have hx : outR16 q l[j] = false := by
        have := List.any_eq_false.1 HO.out l[j] (List.getElem_mem hkl)
        simpa using this
      clear hcc
      generalize l[j] = x at *
      obtain ⟨hx1, hx2⟩ := outR16_no hx
      have hd : decide (x < 1) = false := decide_eq_false (by omega)
      have hd2 : decide ((q : Int) ≤ x) = false := decide_eq_false (by omega)
      clear hx hx1 hx2
      go_wp2
      go_quiet (fail)
      go_wp2
      go_roundw
      case rel => exact ⟨j + 1, by omega, by go_num, below_drewN hbr.out _⟩
      case measure => simp only [intOf]; omega
    · obtain rfl : j = n := by omega
      clear hlt hj
      go_wp2
      go_loopw [7] (fun i wr => ∃ k : Nat, (k + 1 ≤ j ∨ k = 0) ∧ i = .int .i64 ((k : Int) + 1) ∧ Hid (Below w0.heap.size w0 wr) ∧ Hid (∀ i, i + 1 < k + 1 → l.getD i 0 < l.getD (i + 1) 0)) (fun i _ => j - (intOf i).toNat)
      case atStart => exact ⟨0, .inr rfl, by go_num, hbr, fun i hi => by omega⟩
      case round =>
        clear hbr
        obtain ⟨k, hk, rfl, hbr, hrs⟩ := hrel
        have hxr := HX0.out.later hbr.out
        have HXR := Lib.hid hxr
        obtain ⟨⟨y0, y1⟩, y2, y3⟩ := hxr.flt.cs
        clear hxr
        by_cases hlt : k + 1 < j
        · have hkl : k + 1 < l.length := by have := HL.out; omega
          obtain ⟨b, off, rfl, hbl, hcc⟩ := HI.out.row.lit (by rw [i64s_length]; omega)
          have hc0 : wr.cell? ⟨b, off + k, none⟩ = some (.int .i64 (l.getD k 0)) := by
            rw [hbr.out.cell (p := ⟨b, off + k, none⟩) hbl, hcc k _ (i64s_at l k (by omega))]
            simp [List.getD_eq_getElem?_getD, List.getElem?_eq_getElem (show k < l.length by omega)]
          have hc1 : wr.cell? ⟨b, off + (k + 1), none⟩ = some (.int .i64 (l.getD (k + 1) 0)) := by
            rw [hbr.out.cell (p := ⟨b, off + (k + 1), none⟩) hbl, hcc (k + 1) _ (i64s_at l (k + 1) hkl)]
            simp [List.getD_eq_getElem?_getD, List.getElem?_eq_getElem hkl]
          clear hcc
          have hx := HR.out k hkl
          have HX : Hid (∀ i, i + 1 < k + 1 + 1 → l.getD i 0 < l.getD (i + 1) 0) := fun i hi => by
            by_cases he : i = k
            · subst he; omega
            · exact hrs.out i (by omega)
          generalize l.getD (k + 1) 0 = x1 at hc1 hx
          generalize l.getD k 0 = x0 at hc0 hx
          have hd : decide (x1 ≤ x0) = false := decide_eq_false (by omega)
          go_wp2
          go_quiet (fail)
          go_wp2
          go_roundw
          case rel => exact ⟨k + 1, by omega, by go_num, below_drewN hbr.out _, HX⟩
          case measure => simp only [intOf]; omega
        · have hIr := HI.out.below hbr.out
          have HIR := Lib.hid hIr
          have hb1 := (Below.refl wr.heap.size wr).alloc (Nat.le_refl _) (.cells #[] 3)
          have kb : ∀ (V : World) (A : Option Addr) (n c : Nat), (Instr.build 48 #[(0, .pointer (some ⟨m, 0, none⟩)), (1, .slice A n c)]).run Tryz.prog V = .ok (.agg #[.pointer (some ⟨m, 0, none⟩), .slice A n c, .int .i64 0]) V := fun V A n c => run_build V _ _ _ (by kernel_rfl)
          clear hIr
          go_wp2_with (at_builtin; refine wpList_append_row _ rfl _ _ 31 rfl wr.heap.size 3 (.int .i64 0) 8 Tryz.underlying31 info_i64 rfl _ 0 [] rfl (own_empty wr 3) (by simp) A (i64s l) j c rfl (by rw [i64s_length]; exact HL.out) (HIR.out.row.below hb1) (i64s_one _) (by omega) (by omega) ?_; intro v2 w2 hown2 hs2 hb2; have hx := hown2.out; rw [Nat.zero_add, List.nil_append] at hx; have hbw := hb1.trans hb2; obtain ⟨A2, c2, rfl, hI2⟩ := Ints.of_own hx; have ha2 := RAlc.new (m := m) (HL := HL.out) hI2 (Newer.of_own hx) (lt_of_own16 hx) hbw.size; have hbb := hbw.alloc hbw.size (.cells #[.pointer (some ⟨m, 0, none⟩), .slice A2 j c2, .int .i64 0] 48); obtain ⟨U, hU⟩ : ∃ U, w2.alloc (.cells #[.pointer (some ⟨m, 0, none⟩), .slice A2 j c2, .int .i64 0] 48) = U := ⟨_, rfl⟩; rw [hU] at ha2 hbb; have hxw := HXR.out.later hbb; have HXW := Lib.hid hxw; have HA2 := Lib.hid ha2; obtain ⟨⟨z0, z1⟩, z2, z3⟩ := hxw.flt.cs; have HWS := Lib.hid hbw.size; have HXS := Lib.hid (block_lt HXR.out.flt); clear hx hbw hxw hI2 hown2 hbb ha2)
          refine bodyPost_ret (blk_resT Tryz.results24 _ _ rfl (HXW.out.flt.store _ _).load) rfl ?_
          exact ⟨_, rfl, (HA2.out.two HXS.out _ _).mono (Nat.le_of_lt HXS.out), below_store2 HXW.out.bel (Nat.le_refl _) _ _⟩
end
end Go.Proofs.YtnjlganofjkpfaaGreatDoor

/-
  Layer 16: the reference's New, Take, Ahead.
-/
namespace Go.Proofs.YtnjlganofjkpfaaGreatDoor
open Go.RowKit
set_option linter.unusedVariables false
set_option linter.unusedSimpArgs false

section
variable {w : World} {B m q : Nat} {v : Value} {M : List (List UInt8)}
set_option maxRecDepth 100000 in
set_option maxHeartbeats 1600000 in
theorem refNew_bad16 (f : Int) (hI : RImg w B m v M) (hM : M.length = q) (hq : q ≤ 14400) (hf : f < 1 ∨ (q : Int) < f) :
    Calls Tryz.prog 9 #[.pointer (some ⟨m, 0, none⟩), .int .i64 f] w fun e w' => e = .returned (.tuple #[.pointer none, rf none 0 0 1]) ∧ Below w.heap.size w w' := by
  have hX := Rx16.start w
  obtain ⟨w0, hw0⟩ : ∃ w0, w.alloc (.cells #[.slice none 0 0, .int .i64 0] 33) = w0 := ⟨_, rfl⟩
  rw [hw0] at hX
  obtain ⟨Am, cm, hv, hc1, hc2, hcm, _⟩ := (hI.later hX.bel).form
  rw [hM] at hcm hc1
  obtain ⟨⟨y0, y1⟩, y2, y3⟩ := hX.flt.cs
  have HX := Lib.hid hX
  clear hI hM hX
  simp only [rf]
  by_cases h1 : f < 1
  · go_enter Tryz.func9, Tryz.ntmps9
    go_wp2
    refine bodyPost_ret (blk_resT Tryz.results9 _ _ rfl (HX.out.flt.store _ _).load) rfl ?_
    exact ⟨rfl, below_store2 HX.out.bel (Nat.le_refl _) _ _⟩
  · have h2 : (q : Int) < f := by omega
    go_enter Tryz.func9, Tryz.ntmps9
    go_wp2
    refine bodyPost_ret (blk_resT Tryz.results9 _ _ rfl (HX.out.flt.store _ _).load) rfl ?_
    exact ⟨rfl, below_store2 HX.out.bel (Nat.le_refl _) _ _⟩

set_option maxRecDepth 100000 in
set_option maxHeartbeats 1600000 in
theorem refNew_good16 (f : Nat) (hI : RImg w B m v M) (hM : M.length = q) (hq : q ≤ 14400) (h1 : 1 ≤ f) (h2 : f ≤ q) :
    Calls Tryz.prog 9 #[.pointer (some ⟨m, 0, none⟩), .int .i64 (f : Int)] w fun e w' => ∃ p, e = .returned (.tuple #[.pointer (some ⟨p, 0, none⟩), rf none 0 0 0]) ∧ RAlc w' w.heap.size p m (seq16 f q) 0 ∧ Below w.heap.size w w' := by
  have hX := Rx16.start w
  obtain ⟨w0, hw0⟩ : ∃ w0, w.alloc (.cells #[.slice none 0 0, .int .i64 0] 33) = w0 := ⟨_, rfl⟩
  rw [hw0] at hX
  have HM : Hid (∀ W, Rx16 w W → ∃ Am cm, q ≤ cm ∧ cm ≤ 9223372036854775807 ∧ W.cell? ⟨m, 0, none⟩ = some (.slice Am q cm)) := fun W hW => by
    obtain ⟨Am, cm, hv, hc1, hc2, hcm, _⟩ := (hI.later hW.bel).form
    rw [hM] at hcm hc1
    exact ⟨Am, cm, hc1, hc2, hcm⟩
  have FG : Hid (∀ W A c, Rx16 w W → Ints W A (q - f) c (seq16 f q) → Calls Tryz.prog 24 #[.pointer (some ⟨m, 0, none⟩), .slice A (q - f) c] W fun e w' => ∃ p, e = .returned (.tuple #[.pointer (some ⟨p, 0, none⟩), .agg #[.slice none 0 0, .int .i64 0]]) ∧ Hid (RAlc w' (w.heap.size + 1) p m (seq16 f q) 0) ∧ Rx16 w w') := fun W A c hW hl =>
    (refFrom_good16 (hI.later hW.bel) hM hq hl (seq16_in h1) (seq16_rises f q) (by omega)).mono fun e w' ⟨p, h1, h2, h3⟩ => ⟨p, h1, h2.mono (block_lt hW.flt), hW.later h3⟩
  have HX := Lib.hid hX
  clear hI hM hX
  simp only [rf]
  obtain ⟨Am0, cm0, hm1, hm2, hm3⟩ := HM.out w0 HX.out
  have hd1 : decide ((f : Int) < 1) = false := decide_eq_false (by omega)
  have hd2 : decide ((q : Int) < (f : Int)) = false := decide_eq_false (by omega)
  have hd3 : decide (q < f) = false := decide_eq_false (by omega)
  go_enter Tryz.func9, Tryz.ntmps9
  go_wp2
  go_loopw [6, 7] (fun s i wr => ∃ k : Nat, f ≤ k ∧ k ≤ q ∧ i = .int .i64 k ∧ Hid (Below w0.heap.size w0 wr) ∧ Hid (wr.ownsRow w0.heap.size 3 1 s (k - f) (i64s (seq16 f k)))) (fun _ i _ => q - (intOf i).toNat)
  case atStart => exact ⟨f, Nat.le_refl _, h2, rfl, Below.refl _ _, by rw [seq16_start, Nat.sub_self]; exact World.ownsRow_nil _ _ _ _⟩
  case round =>
    clear hm3
    obtain ⟨k, hk1, hk2, rfl, hbr, ho⟩ := hrel
    have hxr := HX.out.later hbr.out
    have HXR := Lib.hid hxr
    obtain ⟨Am, cm, hc1, hc2, hcm⟩ := HM.out wr hxr
    by_cases hlt : k < q
    · go_wp2_with (at_builtin; refine wpList_append_new wr rfl _ _ 31 rfl w0.heap.size 3 3 (.int .i64 0) 8 Tryz.underlying31 info_i64 rfl u6 (k - f) _ rfl ho hbr.out.size [.int .i64 (k : Int)] 1 1 rfl rfl (i64s_one [(k : Int)]) (by omega) (by omega) ?_; intro v2 w2 hown2 hs2 hb2)
      go_roundw
      case rel =>
        have hx := hown2.out
        rw [show i64s (seq16 f k) ++ [.int .i64 (k : Int)] = i64s (seq16 f (k + 1)) by rw [seq16_succ hk1, i64s_append]; rfl, show k - f + 1 = k + 1 - f by omega] at hx
        exact ⟨k + 1, by omega, by omega, by go_num, hbr.out.trans hb2, hx⟩
      case measure => simp only [intOf]; omega
    · obtain rfl : k = q := by omega
      obtain ⟨A1, c1, rfl, hI1⟩ := Ints.of_own ho.out
      have HI1 := Lib.hid hI1
      clear hI1 ho
      go_wp2_with (go_at_call 24; (with_reducible refine (FG.out _ _ _ HXR.out HI1.out).mono ?_); rintro e w2 ⟨p, rfl, ha, hx2⟩; have HX2 := Lib.hid hx2; obtain ⟨⟨z0, z1⟩, z2, z3⟩ := hx2.flt.cs; clear hx2)
      refine bodyPost_ret (blk_resT Tryz.results9 _ _ rfl (HX2.out.flt.store _ _).load) rfl ?_
      exact ⟨p, rfl, (ha.out.two (Nat.lt_succ_self _) _ _).mono (Nat.le_succ _), below_store2 HX2.out.bel (Nat.le_refl _) _ _⟩
end

section
variable {w : World} {base p m : Nat} {fr : List Int} {u : Nat}
set_option maxRecDepth 100000 in
set_option maxHeartbeats 1600000 in
theorem refTake_some16 {x : Int} (h : RAlc w base p m (x :: fr) u) (hu : u ≤ 1000000) : Calls Tryz.prog 65 #[.pointer (some ⟨p, 0, none⟩)] w fun e w' => e = .returned (.tuple #[.int .i64 x, rf none 0 0 0]) ∧ RAlc w' base p m fr (u + 1) ∧ w.grownBy w' (some p) := by
  have hX := Rx16.start w
  obtain ⟨w0, hw0⟩ : ∃ w0, w.alloc (.cells #[.slice none 0 0, .int .i64 0] 33) = w0 := ⟨_, rfl⟩
  rw [hw0] at hX
  have hplt := h.plt
  obtain ⟨hbp, A, c, h1w, h2w, h3⟩ := h
  obtain ⟨b, off, rfl, hbl, hccw⟩ := h2w.row.lit (by simp [i64s])
  have h1 := (hX.bel.block p hplt).trans h1w
  have h2 := h2w.below hX.bel
  obtain ⟨k0, k1, k2, k3, k4⟩ := RAlc.cells h1
  have hx : w0.cell? ⟨b, off, none⟩ = some (.int .i64 x) := (hX.bel.cell (p := ⟨b, off, none⟩) hbl).trans (by simpa using hccw 0 _ rfl)
  obtain ⟨A2, hs, hi, ha⟩ := cut_from16 h2 (t := 1) (by simp)
  have hs' : ∀ V, (Instr.slice 31 (.slice (some ⟨b, off, none⟩) (fr.length + 1) c) (some (.int .i64 1)) none none).run Tryz.prog V = .ok (.slice A2 fr.length (c - 1)) V := hs
  have hi' : Ints w0 A2 fr.length (c - 1) fr := hi
  simp only [List.length_cons] at k1
  obtain ⟨⟨y0, y1⟩, y2, y3⟩ := hX.flt.cs
  have hw := hX.bel
  have hne : p ≠ w.heap.size := by omega
  have hlow : ∀ ad, A2 = some ad → (base ≤ ad.block ∧ ad.block < p) ∧ ad.block < w.heap.size := fun ad e => by
    obtain ⟨ad', e1, e2⟩ := ha ad e
    rw [e2]
    refine ⟨h3 ad' e1, ?_⟩
    cases e1
    exact hbl
  have hcn := h2.cap
  have hcm := h2.most
  simp only [List.length_cons] at hcn
  obtain ⟨U, hU⟩ : ∃ U, (w0.setCell ⟨p, 1, none⟩ (.slice A2 fr.length (c - 1))).setCell ⟨p, 2, none⟩ (.int .i64 ((u : Int) + 1)) = U := ⟨_, rfl⟩
  have hUk : ∀ k, k ≠ p → U.heap[k]? = w0.heap[k]? := fun k hk => by
    rw [← hU, heap_setCell_other _ _ k _ hk, heap_setCell_other _ _ k _ hk]
  have hUp : U.heap[p]? = some (.cells #[.pointer (some ⟨m, 0, none⟩), .slice A2 fr.length (c - 1), .int .i64 ((u : Int) + 1)] 48 (0, 0)) := by
    rw [← hU]
    have b0 : Blk w0 p 48 [.pointer (some ⟨m, 0, none⟩), .slice (some ⟨b, off, none⟩) (x :: fr).length c, .int .i64 (u : Int)] := h1
    exact (b0.set 1 _).set 2 _
  have hUg : w.grownBy U (some p) := by
    refine ⟨by rw [← hU]; exact hw.os, by rw [← hU]; exact hw.tape, by rw [← hU]; exact hw.output, by rw [← hU]; simpa [World.setCell] using hw.size, fun k hk hne => ?_⟩
    rw [hUk k (fun e => hne (by rw [e]))]
    exact hw.block k hk
  have hUf : FltAt U w.heap.size (.slice none 0 0) (.int .i64 0) := (hUk _ (fun e => hne e.symm)).trans hX.flt
  have FIN : Hid (∀ W : World, (∀ k, k < w.heap.size → W.heap[k]? = U.heap[k]?) → RAlc W base p m fr (u + 1)) := fun W hW => by
    refine ⟨hbp, A2, c - 1, (hW p hplt).trans hUp, ⟨hi'.len, hi'.cap, hi'.most, fun k v e => ?_⟩, fun ad e => (hlow ad e).1⟩
    obtain ⟨ad, ea, hc⟩ := hi'.row k v e
    refine ⟨ad, ea, ?_⟩
    have hbk : (ad.add k).block = ad.block := addr_add_block ad k
    obtain ⟨⟨_, hq⟩, hq2⟩ := hlow ad ea
    exact (World.cell?_of_block (w := w0) (by rw [hbk, hW _ hq2, hUk _ (Nat.ne_of_lt hq)])).trans hc
  have hnz : ¬ ((fr.length : Int) + 1 = 0) := by omega
  obtain ⟨⟨z0, z1⟩, z2, z3⟩ := hUf.cs
  have HUF := Lib.hid hUf
  have HUG := Lib.hid hUg
  have HUS := Lib.hid (block_lt hUf)
  clear hX h1 h2 h3 h1w h2w hccw hs hi hi' ha hlow hbl hw hUk hUp hUg hUf
  simp only [rf]
  generalize fr.length = n at *
  generalize c - 1 = c2 at *
  go_enter Tryz.func65, Tryz.ntmps65
  go_wp2
  refine bodyPost_ret (blk_resT Tryz.results65 _ _ rfl (HUF.out.store _ _).load) rfl ?_
  exact ⟨rfl, FIN.out _ fun k hk => by rw [heap_setCell_other _ _ k _ (Nat.ne_of_lt hk), heap_setCell_other _ _ k _ (Nat.ne_of_lt hk)], grown_box HUG.out _ _⟩

end
end Go.Proofs.YtnjlganofjkpfaaGreatDoor
