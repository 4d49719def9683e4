/-
  The reference's Same; the document's example.
-/
import Derived.Test.YtjdalgnkkdfnnaaDoorFltP
import Derived.Test.YtjdalgnkkdfnnaaDoorFltN
import Derived.Laws.BytesArg
namespace Go.Proofs.YtjdalgnkkdfnnaaDoor
open Go.RowKit
set_option linter.unusedVariables false
set_option linter.unusedSimpArgs false

set_option maxRecDepth 100000 in
set_option maxHeartbeats 1000000 in
theorem Flt_same {A A2 : Option Addr} {n c n2 c2 : Nat} {l : List Int} (x : Int) {w : World} (h : Ints w A n c l) (h2 : Ints w A2 n2 c2 l) :
    Calls Tryd.prog 9 #[rf A n c x, rf A2 n2 c2 x] w fun e w' => e = .returned (.bool true) ∧ Below w.heap.size w w' := by
  obtain rfl : n = n2 := h.len.symm.trans h2.len
  simp only [rf]
  have hn := h.le
  have HL := Lib.hid h.len
  have HI := Lib.hid h
  have HI2 := Lib.hid h2
  clear h h2
  have b1 : Below w.heap.size w (w.alloc (.cells #[.slice A n c, .int .i64 x] 24)) := (Below.refl _ _).alloc (Nat.le_refl _) _
  have b2 : Below w.heap.size w ((w.alloc (.cells #[.slice A n c, .int .i64 x] 24)).alloc (.cells #[.slice A2 n c2, .int .i64 x] 24)) := b1.alloc b1.size _
  have hsz : (w.alloc (.cells #[.slice A n c, .int .i64 x] 24)).heap.size = w.heap.size + 1 := by simp
  have h0 : ((w.alloc (.cells #[.slice A n c, .int .i64 x] 24)).alloc (.cells #[.slice A2 n c2, .int .i64 x] 24)).heap[w.heap.size]? = some (.cells #[.slice A n c, .int .i64 x] 24 (0, 0)) := (Below.heap_alloc _ _ _ (by omega)).trans (MapKept.heap_alloc w _).1
  have h1 := (MapKept.heap_alloc (w.alloc (.cells #[.slice A n c, .int .i64 x] 24)) (.cells #[.slice A2 n c2, .int .i64 x] 24)).1
  rw [hsz] at h1
  have B2 := Lib.hid b2
  have H0 := Lib.hid h0
  have H1 := Lib.hid h1
  clear b1 b2 hsz h0 h1
  go_enter Tryd.func9, Tryd.ntmps9
  go_wp2
  go_loopw [5] (fun i wr => ∃ k : Nat, k ≤ n ∧ i = .int .i64 k ∧ Hid (Below (w.heap.size + 2) ((w.alloc (.cells #[.slice A n c, .int .i64 x] 24)).alloc (.cells #[.slice A2 n c2, .int .i64 x] 24)) wr)) (fun i _ => n - (intOf i).toNat)
  case atStart => exact ⟨0, by omega, rfl, Below.refl _ _⟩
  case round =>
    obtain ⟨k, hk, rfl, HB⟩ := hrel
    have g0 := (HB.out.block _ (by omega)).trans H0.out
    have g1 := (HB.out.block _ (by omega)).trans H1.out
    have k0 : wr.cell? ⟨w.heap.size, 0, none⟩ = some (.slice A n c) := by rw [cell_of_row wr w.heap.size 0 _ _ _ g0]; rfl
    have k1 : wr.cell? ⟨w.heap.size + 1, 0, none⟩ = some (.slice A2 n c2) := by rw [cell_of_row wr (w.heap.size + 1) 0 _ _ _ g1]; rfl
    have hbel := B2.out.trans (HB.out.mono (by omega))
    have HBel := Lib.hid hbel
    clear g0 g1
    by_cases hlt : k < n
    · have hkl : k < l.length := by have := HL.out; omega
      obtain ⟨b, off, rfl, hb, hcell⟩ := HI.out.row.lit (by rw [i64s_length]; omega)
      obtain ⟨b2, off2, rfl, hb2, hcell2⟩ := HI2.out.row.lit (by rw [i64s_length]; omega)
      have hc0 : wr.cell? ⟨b, off + k, none⟩ = some (.int .i64 l[k]) := (hbel.cell (p := ⟨b, off + k, none⟩) hb).trans (hcell _ _ (i64s_at l k hkl))
      have hc2 : wr.cell? ⟨b2, off2 + k, none⟩ = some (.int .i64 l[k]) := (hbel.cell (p := ⟨b2, off2 + k, none⟩) hb2).trans (hcell2 _ _ (i64s_at l k hkl))
      clear hcell hcell2 hbel
      generalize l[k] = a at *
      go_wp2
      go_quiet (fail)
      go_wp2
      go_roundw
      case rel => exact ⟨k + 1, by omega, by go_num, below_drewN HB.out _⟩
      case measure => simp only [intOf]; omega
    · go_wp2
      go_ret
      exact ⟨rfl, HBel.out⟩

/-- the same text twice -/
theorem run_text_same (x : List UInt8) (c : ByteArray) (h : x = c.data.toList) (w : World) : (binOp .eql 9 (str x) (.string c)).run Tryd.prog w = .ok (.bool true) w := by
  have e : str x = .string c := by
    subst h
    simp [str]
  rw [e]
  simp [binOp, Op.stringOp, beq_toListBytes]

theorem guard_str (t : TypeId) (x y : Operand) (l : List UInt8) (b : Value) (w : World) : (eqGuard .eql t x y (str l) b).run Tryd.prog w = .ok () w := rfl
theorem guard_str_neq (t : TypeId) (x y : Operand) (l : List UInt8) (b : Value) (w : World) : (eqGuard .neq t x y (str l) b).run Tryd.prog w = .ok () w := rfl

/-- the example's text -/
def livesT : List UInt8 := [98, 108, 111, 99, 107, 32, 51, 58, 32, 98, 108, 111, 99, 107, 32, 55, 58, 32, 101, 114, 114, 111, 114, 32, 52]
theorem text_lives (p q : Nat) : textOf [.flt 3 q, .flt 7 p, .num 4] = livesT := by
  have d : ∀ u, u < 10 → Lib.decDigits u = [UInt8.ofNat (48 + u)] := fun u h => by rw [Lib.decDigits, dif_pos h]
  have h3 : Lib.itoa 3 = [51] := d 3 (by decide)
  have h7 : Lib.itoa 7 = [55] := d 7 (by decide)
  have h4 : Lib.itoa 4 = [52] := d 4 (by decide)
  simp only [textOf, h3, h7, h4]
  rfl

set_option maxRecDepth 100000 in
set_option maxHeartbeats 1000000 in
theorem lives5_any (w : World) (hg : ErrT w) (hp : Pow w) : Calls Tryd.prog 7 #[] w fun e w' => e = .returned (.bool true) ∧ Below w.heap.size w w' := by
  have A1 := Lib.hid (At_err 7 (l := [.num 4]) (by simp) (w := w) rfl)
  have A2 := Lib.hid (fun W p (h : Good W [.flt 7 p, .num 4]) => At_err 3 (by simp) h)
  have CO := Lib.hid (fun W p q (h : Good W [.flt 3 q, .flt 7 p, .num 4]) (h2 : ErrT W) => Code_err h h2)
  have BL := Lib.hid (fun W p q (h : Good W [.flt 3 q, .flt 7 p, .num 4]) => Blocks_any h (by simp))
  have TX := Lib.hid (fun W p q (h : Good W [.flt 3 q, .flt 7 p, .num 4]) (h2 : Pow W) => Text_err h ⟨⟨by omega, by omega⟩, ⟨by omega, by omega⟩, ⟨by omega, by omega⟩, trivial⟩ h2 (by simp))
  have eT := run_text_same livesT ⟨#[98, 108, 111, 99, 107, 32, 51, 58, 32, 98, 108, 111, 99, 107, 32, 55, 58, 32, 101, 114, 114, 111, 114, 32, 52]⟩ rfl
  have gs := guard_str
  have HE := Lib.hid hg
  have HP := Lib.hid hp
  clear hg hp
  simp only [val, codeOf, ans, blocksOf, text_lives] at A1 A2 CO BL TX
  go_enter Tryd.func7, Tryd.ntmps7
  go_wp2_with (first
    | (go_at_call 14; first
        | ((with_reducible refine A1.out.mono ?_); rintro e w1 ⟨p, rfl, hG1, hb1⟩; have G1 := Lib.hid hG1; have H1 := Lib.hid hb1; clear hG1 hb1)
        | ((with_reducible refine (A2.out _ _ G1.out).mono ?_); rintro e w2 ⟨q, rfl, hG2, hb2⟩; have G2 := Lib.hid hG2; have H2 := Lib.hid (H1.out.trans (hb2.mono H1.out.size)); clear hG2 hb2))
    | (go_at_call 17; (with_reducible refine (CO.out _ _ _ G2.out (HE.out.later H2.out)).mono ?_); rintro e w3 ⟨rfl, hb3⟩; have G3 := Lib.hid (G2.out.below hb3); have H3 := Lib.hid (H2.out.trans (hb3.mono H2.out.size)); clear hb3)
    | (go_at_call 11; (with_reducible refine (TX.out _ _ _ G3.out (HP.out.later H3.out)).mono ?_); rintro e w4 ⟨rfl, hb4⟩; have G4 := Lib.hid (G3.out.below hb4); have H4 := Lib.hid (H3.out.trans (hb4.mono H3.out.size)); clear hb4)
    | (go_at_call 18; (with_reducible refine (BL.out _ _ _ G4.out).mono ?_); rintro e w5 ⟨A, n, c, rfl, hI, hb5, _⟩; obtain rfl : 2 = n := hI.len; have H5 := Lib.hid (H4.out.trans (hb5.mono H4.out.size)); clear hb5 hI))
  go_ret
  exact ⟨rfl, H5.out⟩
end Go.Proofs.YtjdalgnkkdfnnaaDoor
