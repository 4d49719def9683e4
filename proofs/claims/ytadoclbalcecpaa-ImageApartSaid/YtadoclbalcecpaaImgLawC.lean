/-
  The walk of ImageApart.
-/
import Derived.Test.YtadoclbalcecpaaImgE
import Derived.Deep.Quiet
import Derived.Deep.QuietTactic
import Derived.Deep.RegionWith
import Derived.Deep.RegionHeld3
namespace Go.Proofs.Ytadoclbalcecpaa
open Go.RowKit
set_option linter.unusedVariables false
set_option linter.unusedSimpArgs false

set_option maxRecDepth 100000 in
set_option maxHeartbeats 1600000 in
theorem apart_big (A A2 : Option Addr) (n c n2 c2 : Nat) (ll : List (Int × List UInt8)) (w : World) (hn : n ≤ 9223372036854775807) (h2 : Stp w A2 n2 c2 ll) (hR : ∀ s ∈ ll, s.2.length ≤ 140737488351232) (h : 6000 < n ∨ fewB ll = false) :
    Calls Try.prog 5 #[.slice A n c, .slice A2 n2 c2] w fun e w' => e = .returned (.bool true) ∧ Below w.heap.size w w' := by
  have FW := Lib.hid (few_any A2 n2 c2 ll w h2 hR)
  clear h2 hR
  by_cases h1 : 6000 < n
  · clear h
    go_enter Try.func5, Try.ntmps5
    go_wp2_with (go_at_call 9; refine (lives_any _).mono ?_; rintro e w4 ⟨rfl, hb4⟩)
    go_ret
    exact ⟨rfl, hb4⟩
  · have h3 : fewB ll = false := by rcases h with h | h; · omega
                                    · exact h
    rw [h3] at FW
    clear h
    go_enter Try.func5, Try.ntmps5
    go_wp2_with (first
      | (go_at_call 8; refine (FW.out).mono ?_; rintro e w' ⟨rfl, rfl⟩)
      | (go_at_call 9; refine (lives_any _).mono ?_; rintro e w4 ⟨rfl, hb4⟩))
    go_ret
    exact ⟨rfl, hb4⟩

/-- what stands while an image is written: the image, its copy, what was told -/
structure Ap (w0 : World) (p g p2 g2 q : Nat) (A3 A4 : Option Addr) (m4 : Nat) (L F : List UInt8) (W : World) : Prop where
  bel : Below w0.heap.size w0 W
  img : ∃ L', Img W w0.heap.size p g L' ∧ L'.length = q * 256
  cpy : Img W w0.heap.size p2 g2 L
  told : Bytes8 W A3 (q * 256) (q * 256) L
  first : Bytes8 W A4 m4 m4 F

theorem Ap.later {w0 W W' : World} {p g p2 g2 q m4 : Nat} {A3 A4 : Option Addr} {L F : List UInt8} (h : Ap w0 p g p2 g2 q A3 A4 m4 L F W) (hb : Below W.heap.size W W') : Ap w0 p g p2 g2 q A3 A4 m4 L F W' := by
  obtain ⟨L', h1, h2⟩ := h.img
  exact ⟨h.bel.trans (hb.mono h.bel.size), ⟨L', h1.later hb, h2⟩, h.cpy.later hb, h.told.below hb, h.first.below hb⟩

/-- the memories are apart -/
structure Sep (B g p2 g2 : Nat) (A3 A4 : Option Addr) : Prop where
  bg : B ≤ g
  hp : p2 ≠ g
  hg : g2 ≠ g
  h3 : Fresh (g + 1) A3
  h4 : Fresh (g + 1) A4

theorem Ap.kept {w0 W W' : World} {p g p2 g2 q m4 : Nat} {A3 A4 : Option Addr} {L F L' : List UInt8} (h : Ap w0 p g p2 g2 q A3 A4 m4 L F W) (hs : Sep w0.heap.size g p2 g2 A3 A4) (hk : Kept g W W') (hi : Img W' w0.heap.size p g L') (hl : L'.length = q * 256) :
    Ap w0 p g p2 g2 q A3 A4 m4 L F W' :=
  ⟨h.bel.trans (hk.below hs.bg), ⟨L', hi, hl⟩, h.cpy.kept hk hs.hp hs.hg, h.told.kept hk hs.h3 (by omega), h.first.kept hk hs.h4 (by omega)⟩

theorem apart_write {w0 W : World} {p g p2 g2 q m4 : Nat} {A3 A4 : Option Addr} {L F : List UInt8} (k : Int) (A : Option Addr) (m c : Nat) (l : List UInt8) (h : Ap w0 p g p2 g2 q A3 A4 m4 L F W) (hs : Sep w0.heap.size g p2 g2 A3 A4) (hl : Bytes8 w0 A m c l) :
    Calls Try.prog 12 #[.pointer (some ⟨p, 0, none⟩), .int .i64 k, .slice A m c] W fun e w' => ∃ x, e = .returned (.int .i64 x) ∧ Ap w0 p g p2 g2 q A3 A4 m4 L F w' := by
  obtain ⟨L', h1, h2⟩ := h.img
  refine (Write_any k A m c l W h1 h2 (hl.below h.bel)).mono ?_
  rintro e w' ⟨x, L2, rfl, hk, hi, hn⟩
  exact ⟨x, rfl, h.kept hs hk hi hn⟩

/-- Read of block 0 of an image of the bytes L -/
theorem read0 {L : List UInt8} {q : Nat} (hL : L.length = q * 256) (W : World) (B p g : Nat) (hi : Img W B p g L) :
    Calls Try.prog 14 #[.pointer (some ⟨p, 0, none⟩), .int .i64 0] W fun e w' => ∃ A, e = .returned (.tuple #[.slice A (if q = 0 then 0 else 256) (if q = 0 then 0 else 256), .int .i64 (if q = 0 then 3 else 0)]) ∧
      Bytes8 w' A (if q = 0 then 0 else 256) (if q = 0 then 0 else 256) (if q = 0 then [] else blk L 0) ∧ Below W.heap.size W w' ∧ Fresh W.heap.size A := by
  by_cases hq : q = 0
  · simp only [if_pos hq]
    refine (Read_bad p 0 q W (Blocks_img W hi hL) (by omega)).mono ?_
    rintro e w' ⟨rfl, rfl⟩
    exact ⟨none, rfl, Bytes8.nil _, Below.refl _ _, fun ad e => by cases e⟩
  · simp only [if_neg hq]
    exact Read_fresh 0 W hi hL (by omega)

set_option maxRecDepth 100000 in
set_option maxHeartbeats 4000000 in
theorem apart_pos (A : Option Addr) (n c : Nat) (l : List UInt8) (b2 off2 n2 c2 : Nat) (ll : List (Int × List UInt8)) (w : World) (h : Bytes8 w A n c l) (hn : n ≤ 6000) (h2 : Stp w (some ⟨b2, off2, none⟩) n2 c2 ll) (hp : 0 < n2) (hR : ∀ s ∈ ll, s.2.length ≤ 140737488351232) (hf : fewB ll = true)
    (q m4 : Nat) (e0 : Int) (F : List UInt8) (hq : q = n / 256) (hE : (e0 = 0 ∧ 256 ≤ n) ∨ (e0 = 3 ∧ n < 256))
    (hR0 : ∀ (W : World) (B p g : Nat), Img W B p g (l.take (q * 256)) → Calls Try.prog 14 #[.pointer (some ⟨p, 0, none⟩), .int .i64 0] W fun e w' => ∃ A, e = .returned (.tuple #[.slice A m4 m4, .int .i64 e0]) ∧ Bytes8 w' A m4 m4 F ∧ Below W.heap.size W w' ∧ Fresh W.heap.size A) :
    Calls Try.prog 5 #[.slice A n c, .slice (some ⟨b2, off2, none⟩) n2 c2] w fun e w' => e = .returned (.bool true) ∧ Below w.heap.size w w' := by
  have hlen := h.len
  have hL : (l.take (q * 256)).length = q * 256 := by rw [List.length_take]; omega
  have FW := Lib.hid (few_any _ n2 c2 ll w h2 hR)
  have FO : Hid (Calls Try.prog 10 #[.slice A n c] w fun e w' => ∃ p g, e = .returned (.pointer (some ⟨p, 0, none⟩)) ∧ Img w' w.heap.size p g (l.take (q * 256)) ∧ Below w.heap.size w w') := by
    have := Of_any _ n c l w h
    rwa [whole_small hn, ← hq] at this
  have FC : Hid (∀ (W : World) B p g, Img W B p g (l.take (q * 256)) → Calls Try.prog 21 #[.pointer (some ⟨p, 0, none⟩)] W fun e w' => ∃ p' g', e = .returned (.pointer (some ⟨p', 0, none⟩)) ∧ Img w' W.heap.size p' g' (l.take (q * 256)) ∧ Below W.heap.size W w') := fun W B p g hi => Copy_img W hi hL
  have FB : Hid (∀ (W : World) B p g, Img W B p g (l.take (q * 256)) → Calls Try.prog 17 #[.pointer (some ⟨p, 0, none⟩)] W fun e w' => ∃ A, e = .returned (.slice A (q * 256) (q * 256)) ∧ Bytes8 w' A (q * 256) (q * 256) (l.take (q * 256)) ∧ Below W.heap.size W w' ∧ Fresh W.heap.size A) := fun W B p g hi => by
    have := Bytes_fresh W hi
    rwa [hL] at this
  have FR := Lib.hid hR0
  have HB := Lib.hid h
  have cv0 := run_text h
  rw [hf] at FW
  obtain ⟨b', off', e, hb2, hcell⟩ := h2.lit hp
  cases e
  have HS := Lib.hid hcell
  have HN := Lib.hid h2.len
  have hcap2 := h2.cap
  have hmost2 := h2.most
  clear hcell h2 hR hf
  generalize l.take (q * 256) = L at *
  clear h hR0 hlen hL hq
  rcases hE with ⟨rfl, hE⟩ | ⟨rfl, hE⟩
  · go_enter Try.func5, Try.ntmps5
    go_wp2_with (first
      | (go_at_call 8; refine (FW.out).mono ?_; rintro e w' ⟨rfl, rfl⟩)
      | (go_at_call 10; refine (FO.out).mono ?_; rintro e w1 ⟨p, g, rfl, hI1, hb1⟩)
      | (go_at_call 21; (with_reducible refine (FC.out _ _ p g hI1).mono ?_); rintro e w2 ⟨p2, g2, rfl, hI2, hb2'⟩; have hI12 := hI1.later hb2')
      | (go_at_call 17; (with_reducible refine (FB.out _ _ p g hI12).mono ?_); rintro e w3 ⟨A3, rfl, hB3, hb3, hF3⟩; have hI13 := hI12.later hb3; have cv3 := run_text hB3)
      | (go_at_call 14; (with_reducible refine (FR.out _ _ p g hI13).mono ?_); rintro e w4 ⟨A4, rfl, hB4, hb4, hF4⟩; have cv4 := run_text hB4))
    have HSep : Hid (Sep w.heap.size g p2 g2 A3 A4) := ⟨hI1.bg, by have := hI2.bp; have := hI1.glt; omega, by have := hI2.bg; have := hI1.glt; omega, hF3.mono (by have := hI12.glt; omega), hF4.mono (by have := hI13.glt; omega)⟩
    have HAp : Hid (Ap w p g p2 g2 q A3 A4 m4 L F w4) := by
      have h12 := hb1.trans (hb2'.mono hb1.size)
      have h13 := h12.trans (hb3.mono h12.size)
      exact ⟨h13.trans (hb4.mono h13.size), ⟨L, hI13.later hb4, by have := hB3.len; exact this⟩, ((hI2.later hb3).later hb4).down hb1.size, hB3.below hb4, hB4⟩
    clear hI1 hI2 hI12 hI13 hB3 hB4 hb1 hb2' hb3 hb4 hF3 hF4 cv0 cv3 cv4
    go_loopw [13] (fun i wr => ∃ j : Nat, j ≤ n2 ∧ i = .int .i64 j ∧ Hid (Ap w p g p2 g2 q A3 A4 m4 L F wr)) (fun i _ => n2 - (intOf i).toNat)
    case atStart => exact ⟨0, by omega, rfl, HAp⟩
    case round =>
      obtain ⟨j, hj, rfl, HA⟩ := hrel
      by_cases hlt : j < n2
      · have hjl : j < ll.length := by have := HN.out; omega
        obtain ⟨A', m', c', hc0, hc1, hB0⟩ := HS.out j hjl
        have hd0 : wr.cell? ⟨b2, off2 + j * 2, none⟩ = some (.int .i64 ll[j].1) := (HA.out.bel.cell (p := ⟨b2, off2 + j * 2, none⟩) hb2).trans hc0
        have hd1 : wr.cell? ⟨b2, off2 + (j * 2 + 1), none⟩ = some (.slice A' m' c') := (HA.out.bel.cell (p := ⟨b2, off2 + (j * 2 + 1), none⟩) hb2).trans hc1
        have hix : off2 + j * 2 + 1 = off2 + (j * 2 + 1) := by omega
        have WR : Hid (∀ W, Ap w p g p2 g2 q A3 A4 m4 L F W → Calls Try.prog 12 #[.pointer (some ⟨p, 0, none⟩), .int .i64 ll[j].1, .slice A' m' c'] W fun e w' => ∃ x, e = .returned (.int .i64 x) ∧ Ap w p g p2 g2 q A3 A4 m4 L F w' ∧ w'.cell? ⟨b2, off2 + j * 2, none⟩ = some (.int .i64 ll[j].1) ∧ w'.cell? ⟨b2, off2 + (j * 2 + 1), none⟩ = some (.slice A' m' c')) := fun W hW => (apart_write _ A' m' c' _ hW HSep.out hB0).mono fun e w' ⟨x, h1, h2⟩ => ⟨x, h1, h2, (h2.bel.cell (p := ⟨b2, off2 + j * 2, none⟩) hb2).trans hc0, (h2.bel.cell (p := ⟨b2, off2 + (j * 2 + 1), none⟩) hb2).trans hc1⟩
        have HAd : Ap w p g p2 g2 q A3 A4 m4 L F wr.drew := HA.out.later ((Below.refl _ _).drew)
        generalize ll[j].1 = kk at *
        clear hB0 hc0 hc1
        go_wp2
        go_region_held3 (fun W => W.cell? ⟨b2, off2 + j * 2, none⟩ = some (.int .i64 kk) ∧ W.cell? ⟨b2, off2 + (j * 2 + 1), none⟩ = some (.slice A' m' c') ∧ Ap w p g p2 g2 q A3 A4 m4 L F W)
          (first | exact ⟨hd0, hd1, HAd⟩ | exact ⟨hn0, hn1, hap⟩)
          (first | (go_at_call 12; refine (WR.out _ (by first | exact HAd | assumption)).mono ?_; rintro e w' ⟨x, rfl, hap, hn0, hn1⟩))
        go_wp2
        go_roundw
        case rel => exact ⟨j + 1, by omega, by go_num, Lib.hid hap⟩
        case measure => simp [intOf]; omega
      · obtain rfl : j = n2 := by omega
        go_wp2_with (first
          | (go_at_call 14; (with_reducible refine (FR.out _ _ p2 g2 HA.out.cpy).mono ?_); rintro e w5 ⟨A5, rfl, hB5, hb5, hF5⟩; have HA5 := Lib.hid (HA.out.later hb5); have cvb := run_text (HB.out.below HA5.out.bel); have cvt := run_text HA5.out.told; have cvf := run_text HA5.out.first)
          | (go_at_call 17; (with_reducible refine (FB.out _ _ p2 g2 HA5.out.cpy).mono ?_); rintro e w6 ⟨A6, rfl, hB6, hb6, hF6⟩; have HA6 := Lib.hid (HA5.out.later hb6); have cvc := run_text hB6; have cva := run_text (hB5.below hb6))
          | (go_at_call 9; refine (lives_any _).mono ?_; rintro e w7 ⟨rfl, hb7⟩))
        go_ret
        exact ⟨rfl, HA6.out.bel.trans (hb7.mono HA6.out.bel.size)⟩
  · go_enter Try.func5, Try.ntmps5
    go_wp2_with (first
      | (go_at_call 8; refine (FW.out).mono ?_; rintro e w' ⟨rfl, rfl⟩)
      | (go_at_call 10; refine (FO.out).mono ?_; rintro e w1 ⟨p, g, rfl, hI1, hb1⟩)
      | (go_at_call 21; (with_reducible refine (FC.out _ _ p g hI1).mono ?_); rintro e w2 ⟨p2, g2, rfl, hI2, hb2'⟩; have hI12 := hI1.later hb2')
      | (go_at_call 17; (with_reducible refine (FB.out _ _ p g hI12).mono ?_); rintro e w3 ⟨A3, rfl, hB3, hb3, hF3⟩; have hI13 := hI12.later hb3; have cv3 := run_text hB3)
      | (go_at_call 14; (with_reducible refine (FR.out _ _ p g hI13).mono ?_); rintro e w4 ⟨A4, rfl, hB4, hb4, hF4⟩; have cv4 := run_text hB4))
    have HSep : Hid (Sep w.heap.size g p2 g2 A3 A4) := ⟨hI1.bg, by have := hI2.bp; have := hI1.glt; omega, by have := hI2.bg; have := hI1.glt; omega, hF3.mono (by have := hI12.glt; omega), hF4.mono (by have := hI13.glt; omega)⟩
    have HAp : Hid (Ap w p g p2 g2 q A3 A4 m4 L F w4) := by
      have h12 := hb1.trans (hb2'.mono hb1.size)
      have h13 := h12.trans (hb3.mono h12.size)
      exact ⟨h13.trans (hb4.mono h13.size), ⟨L, hI13.later hb4, by have := hB3.len; exact this⟩, ((hI2.later hb3).later hb4).down hb1.size, hB3.below hb4, hB4⟩
    clear hI1 hI2 hI12 hI13 hB3 hB4 hb1 hb2' hb3 hb4 hF3 hF4 cv0 cv3 cv4
    go_loopw [13] (fun i wr => ∃ j : Nat, j ≤ n2 ∧ i = .int .i64 j ∧ Hid (Ap w p g p2 g2 q A3 A4 m4 L F wr)) (fun i _ => n2 - (intOf i).toNat)
    case atStart => exact ⟨0, by omega, rfl, HAp⟩
    case round =>
      obtain ⟨j, hj, rfl, HA⟩ := hrel
      by_cases hlt : j < n2
      · have hjl : j < ll.length := by have := HN.out; omega
        obtain ⟨A', m', c', hc0, hc1, hB0⟩ := HS.out j hjl
        have hd0 : wr.cell? ⟨b2, off2 + j * 2, none⟩ = some (.int .i64 ll[j].1) := (HA.out.bel.cell (p := ⟨b2, off2 + j * 2, none⟩) hb2).trans hc0
        have hd1 : wr.cell? ⟨b2, off2 + (j * 2 + 1), none⟩ = some (.slice A' m' c') := (HA.out.bel.cell (p := ⟨b2, off2 + (j * 2 + 1), none⟩) hb2).trans hc1
        have hix : off2 + j * 2 + 1 = off2 + (j * 2 + 1) := by omega
        have WR : Hid (∀ W, Ap w p g p2 g2 q A3 A4 m4 L F W → Calls Try.prog 12 #[.pointer (some ⟨p, 0, none⟩), .int .i64 ll[j].1, .slice A' m' c'] W fun e w' => ∃ x, e = .returned (.int .i64 x) ∧ Ap w p g p2 g2 q A3 A4 m4 L F w' ∧ w'.cell? ⟨b2, off2 + j * 2, none⟩ = some (.int .i64 ll[j].1) ∧ w'.cell? ⟨b2, off2 + (j * 2 + 1), none⟩ = some (.slice A' m' c')) := fun W hW => (apart_write _ A' m' c' _ hW HSep.out hB0).mono fun e w' ⟨x, h1, h2⟩ => ⟨x, h1, h2, (h2.bel.cell (p := ⟨b2, off2 + j * 2, none⟩) hb2).trans hc0, (h2.bel.cell (p := ⟨b2, off2 + (j * 2 + 1), none⟩) hb2).trans hc1⟩
        have HAd : Ap w p g p2 g2 q A3 A4 m4 L F wr.drew := HA.out.later ((Below.refl _ _).drew)
        generalize ll[j].1 = kk at *
        clear hB0 hc0 hc1
        go_wp2
        go_region_held3 (fun W => W.cell? ⟨b2, off2 + j * 2, none⟩ = some (.int .i64 kk) ∧ W.cell? ⟨b2, off2 + (j * 2 + 1), none⟩ = some (.slice A' m' c') ∧ Ap w p g p2 g2 q A3 A4 m4 L F W)
          (first | exact ⟨hd0, hd1, HAd⟩ | exact ⟨hn0, hn1, hap⟩)
          (first | (go_at_call 12; refine (WR.out _ (by first | exact HAd | assumption)).mono ?_; rintro e w' ⟨x, rfl, hap, hn0, hn1⟩))
        go_wp2
        go_roundw
        case rel => exact ⟨j + 1, by omega, by go_num, Lib.hid hap⟩
        case measure => simp [intOf]; omega
      · obtain rfl : j = n2 := by omega
        go_wp2_with (first
          | (go_at_call 14; (with_reducible refine (FR.out _ _ p2 g2 HA.out.cpy).mono ?_); rintro e w5 ⟨A5, rfl, hB5, hb5, hF5⟩; have HA5 := Lib.hid (HA.out.later hb5); have cvb := run_text (HB.out.below HA5.out.bel); have cvt := run_text HA5.out.told; have cvf := run_text HA5.out.first)
          | (go_at_call 17; (with_reducible refine (FB.out _ _ p2 g2 HA5.out.cpy).mono ?_); rintro e w6 ⟨A6, rfl, hB6, hb6, hF6⟩; have HA6 := Lib.hid (HA5.out.later hb6); have cvc := run_text hB6; have cva := run_text (hB5.below hb6))
          | (go_at_call 9; refine (lives_any _).mono ?_; rintro e w7 ⟨rfl, hb7⟩))
        go_ret
        exact ⟨bool_ret (a := !decide (256 ≤ (n : Int))) (by simp; omega), HA6.out.bel.trans (hb7.mono HA6.out.bel.size)⟩

set_option maxRecDepth 100000 in
set_option maxHeartbeats 4000000 in
theorem apart_none (A : Option Addr) (n c : Nat) (l : List UInt8) (A2 : Option Addr) (c2 : Nat) (w : World) (h : Bytes8 w A n c l) (hn : n ≤ 6000) (h2 : Stp w A2 0 c2 [])
    (q m4 : Nat) (e0 : Int) (F : List UInt8) (hq : q = n / 256) (hE : (e0 = 0 ∧ 256 ≤ n) ∨ (e0 = 3 ∧ n < 256))
    (hR0 : ∀ (W : World) (B p g : Nat), Img W B p g (l.take (q * 256)) → Calls Try.prog 14 #[.pointer (some ⟨p, 0, none⟩), .int .i64 0] W fun e w' => ∃ A, e = .returned (.tuple #[.slice A m4 m4, .int .i64 e0]) ∧ Bytes8 w' A m4 m4 F ∧ Below W.heap.size W w' ∧ Fresh W.heap.size A) :
    Calls Try.prog 5 #[.slice A n c, .slice A2 0 c2] w fun e w' => e = .returned (.bool true) ∧ Below w.heap.size w w' := by
  have hlen := h.len
  have hL : (l.take (q * 256)).length = q * 256 := by rw [List.length_take]; omega
  have FW := Lib.hid (few_any A2 0 c2 [] w h2 (by simp))
  have FO : Hid (Calls Try.prog 10 #[.slice A n c] w fun e w' => ∃ p g, e = .returned (.pointer (some ⟨p, 0, none⟩)) ∧ Img w' w.heap.size p g (l.take (q * 256)) ∧ Below w.heap.size w w') := by
    have := Of_any _ n c l w h
    rwa [whole_small hn, ← hq] at this
  have FC : Hid (∀ (W : World) B p g, Img W B p g (l.take (q * 256)) → Calls Try.prog 21 #[.pointer (some ⟨p, 0, none⟩)] W fun e w' => ∃ p' g', e = .returned (.pointer (some ⟨p', 0, none⟩)) ∧ Img w' W.heap.size p' g' (l.take (q * 256)) ∧ Below W.heap.size W w') := fun W B p g hi => Copy_img W hi hL
  have FB : Hid (∀ (W : World) B p g, Img W B p g (l.take (q * 256)) → Calls Try.prog 17 #[.pointer (some ⟨p, 0, none⟩)] W fun e w' => ∃ A, e = .returned (.slice A (q * 256) (q * 256)) ∧ Bytes8 w' A (q * 256) (q * 256) (l.take (q * 256)) ∧ Below W.heap.size W w' ∧ Fresh W.heap.size A) := fun W B p g hi => by
    have := Bytes_fresh W hi
    rwa [hL] at this
  have FR := Lib.hid hR0
  have HB := Lib.hid h
  have cv0 := run_text h
  have hf : fewB [] = true := rfl
  rw [hf] at FW
  clear h2 hf
  generalize l.take (q * 256) = L at *
  clear h hR0 hlen hL hq
  rcases hE with ⟨rfl, hE⟩ | ⟨rfl, hE⟩
  · go_enter Try.func5, Try.ntmps5
    go_wp2_with (first
      | (go_at_call 8; refine (FW.out).mono ?_; rintro e w' ⟨rfl, rfl⟩)
      | (go_at_call 10; refine (FO.out).mono ?_; rintro e w1 ⟨p, g, rfl, hI1, hb1⟩)
      | (go_at_call 21; (with_reducible refine (FC.out _ _ p g hI1).mono ?_); rintro e w2 ⟨p2, g2, rfl, hI2, hb2'⟩; have hI12 := hI1.later hb2')
      | (go_at_call 17; (with_reducible refine (FB.out _ _ p g hI12).mono ?_); rintro e w3 ⟨A3, rfl, hB3, hb3, hF3⟩; have hI13 := hI12.later hb3; have cv3 := run_text hB3)
      | (go_at_call 14; (with_reducible refine (FR.out _ _ p g hI13).mono ?_); rintro e w4 ⟨A4, rfl, hB4, hb4, hF4⟩; have cv4 := run_text hB4))
    have HSep : Hid (Sep w.heap.size g p2 g2 A3 A4) := ⟨hI1.bg, by have := hI2.bp; have := hI1.glt; omega, by have := hI2.bg; have := hI1.glt; omega, hF3.mono (by have := hI12.glt; omega), hF4.mono (by have := hI13.glt; omega)⟩
    have HAp : Hid (Ap w p g p2 g2 q A3 A4 m4 L F w4) := by
      have h12 := hb1.trans (hb2'.mono hb1.size)
      have h13 := h12.trans (hb3.mono h12.size)
      exact ⟨h13.trans (hb4.mono h13.size), ⟨L, hI13.later hb4, by have := hB3.len; exact this⟩, ((hI2.later hb3).later hb4).down hb1.size, hB3.below hb4, hB4⟩
    clear hI1 hI2 hI12 hI13 hB3 hB4 hb1 hb2' hb3 hb4 hF3 hF4 cv0 cv3 cv4
    have HA := HAp
    refine wp_loop_rounds 1 ?_
    rw [rounds_succ]
    go_wp2_with (first
          | (go_at_call 14; (with_reducible refine (FR.out _ _ p2 g2 HA.out.cpy).mono ?_); rintro e w5 ⟨A5, rfl, hB5, hb5, hF5⟩; have HA5 := Lib.hid (HA.out.later hb5); have cvb := run_text (HB.out.below HA5.out.bel); have cvt := run_text HA5.out.told; have cvf := run_text HA5.out.first)
          | (go_at_call 17; (with_reducible refine (FB.out _ _ p2 g2 HA5.out.cpy).mono ?_); rintro e w6 ⟨A6, rfl, hB6, hb6, hF6⟩; have HA6 := Lib.hid (HA5.out.later hb6); have cvc := run_text hB6; have cva := run_text (hB5.below hb6))
          | (go_at_call 9; refine (lives_any _).mono ?_; rintro e w7 ⟨rfl, hb7⟩))
    go_ret
    exact ⟨rfl, HA6.out.bel.trans (hb7.mono HA6.out.bel.size)⟩
  · go_enter Try.func5, Try.ntmps5
    go_wp2_with (first
      | (go_at_call 8; refine (FW.out).mono ?_; rintro e w' ⟨rfl, rfl⟩)
      | (go_at_call 10; refine (FO.out).mono ?_; rintro e w1 ⟨p, g, rfl, hI1, hb1⟩)
      | (go_at_call 21; (with_reducible refine (FC.out _ _ p g hI1).mono ?_); rintro e w2 ⟨p2, g2, rfl, hI2, hb2'⟩; have hI12 := hI1.later hb2')
      | (go_at_call 17; (with_reducible refine (FB.out _ _ p g hI12).mono ?_); rintro e w3 ⟨A3, rfl, hB3, hb3, hF3⟩; have hI13 := hI12.later hb3; have cv3 := run_text hB3)
      | (go_at_call 14; (with_reducible refine (FR.out _ _ p g hI13).mono ?_); rintro e w4 ⟨A4, rfl, hB4, hb4, hF4⟩; have cv4 := run_text hB4))
    have HSep : Hid (Sep w.heap.size g p2 g2 A3 A4) := ⟨hI1.bg, by have := hI2.bp; have := hI1.glt; omega, by have := hI2.bg; have := hI1.glt; omega, hF3.mono (by have := hI12.glt; omega), hF4.mono (by have := hI13.glt; omega)⟩
    have HAp : Hid (Ap w p g p2 g2 q A3 A4 m4 L F w4) := by
      have h12 := hb1.trans (hb2'.mono hb1.size)
      have h13 := h12.trans (hb3.mono h12.size)
      exact ⟨h13.trans (hb4.mono h13.size), ⟨L, hI13.later hb4, by have := hB3.len; exact this⟩, ((hI2.later hb3).later hb4).down hb1.size, hB3.below hb4, hB4⟩
    clear hI1 hI2 hI12 hI13 hB3 hB4 hb1 hb2' hb3 hb4 hF3 hF4 cv0 cv3 cv4
    have HA := HAp
    refine wp_loop_rounds 1 ?_
    rw [rounds_succ]
    go_wp2_with (first
          | (go_at_call 14; (with_reducible refine (FR.out _ _ p2 g2 HA.out.cpy).mono ?_); rintro e w5 ⟨A5, rfl, hB5, hb5, hF5⟩; have HA5 := Lib.hid (HA.out.later hb5); have cvb := run_text (HB.out.below HA5.out.bel); have cvt := run_text HA5.out.told; have cvf := run_text HA5.out.first)
          | (go_at_call 17; (with_reducible refine (FB.out _ _ p2 g2 HA5.out.cpy).mono ?_); rintro e w6 ⟨A6, rfl, hB6, hb6, hF6⟩; have HA6 := Lib.hid (HA5.out.later hb6); have cvc := run_text hB6; have cva := run_text (hB5.below hb6))
          | (go_at_call 9; refine (lives_any _).mono ?_; rintro e w7 ⟨rfl, hb7⟩))
    go_ret
    exact ⟨bool_ret (a := !decide (256 ≤ (n : Int))) (by simp; omega), HA6.out.bel.trans (hb7.mono HA6.out.bel.size)⟩

theorem apart_walk (A : Option Addr) (n c : Nat) (l : List UInt8) (A2 : Option Addr) (n2 c2 : Nat) (ll : List (Int × List UInt8)) (w : World) (h : Bytes8 w A n c l) (h2 : Stp w A2 n2 c2 ll) (hR : ∀ s ∈ ll, s.2.length ≤ 140737488351232) :
    Calls Try.prog 5 #[.slice A n c, .slice A2 n2 c2] w fun e w' => e = .returned (.bool true) ∧ Below w.heap.size w w' := by
  by_cases hbig : 6000 < n ∨ fewB ll = false
  · exact apart_big A A2 n c n2 c2 ll w h.le h2 hR hbig
  · have hn : n ≤ 6000 := by omega
    have hf : fewB ll = true := by cases hfb : fewB ll with
      | true => rfl
      | false => exact absurd (.inr hfb) hbig
    have hL : (l.take (n / 256 * 256)).length = n / 256 * 256 := by have := h.len; rw [List.length_take]; omega
    have hR0 := read0 hL
    have hE : ((if n / 256 = 0 then (3 : Int) else 0) = 0 ∧ 256 ≤ n) ∨ ((if n / 256 = 0 then (3 : Int) else 0) = 3 ∧ n < 256) := by
      split
      · right; exact ⟨rfl, by omega⟩
      · left; exact ⟨rfl, by omega⟩
    by_cases hp : 0 < n2
    · obtain ⟨b2, off2, rfl, _, _⟩ := h2.lit hp
      exact apart_pos A n c l b2 off2 n2 c2 ll w h hn h2 hp hR hf (n / 256) _ _ _ rfl hE hR0
    · obtain rfl : n2 = 0 := by omega
      obtain rfl : ll = [] := List.eq_nil_of_length_eq_zero h2.len
      exact apart_none A n c l A2 c2 w h hn h2 (n / 256) _ _ _ rfl hE hR0

end Go.Proofs.Ytadoclbalcecpaa
