/-
  The reference's Text.
-/
import Derived.Test.YtjdalgnkkdfnnaaDoorFltLawB
namespace Go.Proofs.YtjdalgnkkdfnnaaDoor
open Go.RowKit
set_option linter.unusedVariables false
set_option linter.unusedSimpArgs false

/-- the text of the blocks alone -/
def blkT (bs : List Int) : List UInt8 := (bs.map fun b => sBlock ++ Lib.itoa b ++ sColon).flatten
theorem textL_eq (bs : List Int) (code : Int) : textL bs code = blkT bs ++ (sError ++ Lib.itoa code) := rfl
theorem blkT_le (bs : List Int) (h : ∀ b ∈ bs, -9223372036854775808 ≤ b ∧ b ≤ 9223372036854775807) : (blkT bs).length ≤ 40 * bs.length := by
  induction bs with
  | nil => simp [blkT]
  | cons b bs ih =>
    have h1 := ih (fun x hx => h x (List.mem_cons_of_mem _ hx))
    have h2 := Lib.itoa_length_le b (h b (List.mem_cons_self)).1 (h b (List.mem_cons_self)).2
    simp only [blkT, List.map_cons, List.flatten_cons, List.length_append] at h1 ⊢
    simp [sBlock, sColon] at *
    omega
theorem blkT_snoc (bs : List Int) (b : Int) : blkT (bs ++ [b]) = ((blkT bs ++ sBlock) ++ Lib.itoa b) ++ sColon := by
  simp [blkT]

theorem refText_nil (A : Option Addr) (n c : Nat) (w : World) :
    Calls Tryd.prog 12 #[.agg #[.slice A n c, .int .i64 0]] w fun e w' => e = .returned (str []) ∧ Below w.heap.size w w' := by
  go_enter Tryd.func12, Tryd.ntmps12
  go_wp2
  go_ret
  exact ⟨rfl, (Below.refl _ _).alloc (Nat.le_refl _) _⟩

set_option maxRecDepth 100000 in
set_option maxHeartbeats 2000000 in
theorem refText_err {A : Option Addr} {n c : Nat} {bs : List Int} {code : Int} (hc : code ≠ 0) (w : World) (hI : Ints w A n c bs) (hn : n ≤ 300) (hbd : ∀ b ∈ bs, -9223372036854775808 ≤ b ∧ b ≤ 9223372036854775807) (hcd : -9223372036854775808 ≤ code ∧ code ≤ 9223372036854775807) :
    Calls Tryd.prog 12 #[.agg #[.slice A n c, .int .i64 code]] w fun e w' => e = .returned (str (textL bs code)) ∧ Below w.heap.size w w' := by
  have HX := Lib.hid (BoxO.first w A n c code)
  have HI := Lib.hid hI
  have HLn := Lib.hid hI.len
  have hle := hI.le
  have hcb : (code == 0) = false := by simpa using hc
  have HBd := Lib.hid hbd
  have HCd := Lib.hid hcd
  have E0 : Hid (blkT (bs.take 0) = []) := rfl
  clear hI hc hbd hcd
  go_enter Tryd.func12, Tryd.ntmps12
  go_wp2
  go_loopw [3, 4] (fun sv i wr => ∃ (k : Nat) (t : List UInt8), k ≤ n ∧ i = .int .i64 k ∧ sv = str t ∧ Hid (t = blkT (bs.take k)) ∧ Hid (BoxO w wr A n c code)) (fun _ i _ => n - (intOf i).toNat)
  case atStart => exact ⟨0, [], by omega, rfl, rfl, rfl, HX⟩
  case round =>
    obtain ⟨k, t, hk, rfl, rfl, HT, HB⟩ := hrel
    have k0 := HB.out.k0
    have k1 := HB.out.k1
    have htl : t.length ≤ 40 * 300 := by
      have h1 := blkT_le (bs.take k) (fun b hb => HBd.out b (List.mem_of_mem_take hb))
      have h2 := HLn.out
      rw [HT.out]
      rw [List.length_take] at h1
      omega
    by_cases hlt : k < n
    · have hkl : k < bs.length := by have := HLn.out; omega
      obtain ⟨b2, off, rfl, hb2, hcell⟩ := HI.out.row.lit (by rw [i64s_length]; omega)
      have hcq : wr.cell? ⟨b2, off + k, none⟩ = some (.int .i64 bs[k]) := (HB.out.bel.cell (p := ⟨b2, off + k, none⟩) hb2).trans (hcell _ _ (i64s_at bs k hkl))
      have htk : bs.take (k + 1) = bs.take k ++ [bs[k]] := List.take_succ_eq_append_getElem hkl
      have hbk := HBd.out bs[k] (List.getElem_mem _)
      have HT2 : Hid (((t ++ sBlock) ++ Lib.itoa bs[k]) ++ sColon = blkT (bs.take (k + 1))) := by rw [htk, blkT_snoc, HT.out]; rfl
      clear htk hcell
      generalize bs[k] = b at *
      have DG := Lib.hid (fun W => Digits_any b hbk.1 hbk.2 W)
      have hil := Lib.itoa_length_le b hbk.1 hbk.2
      have a2 := run_add (t ++ sBlock) (Lib.itoa b) (by simp [sBlock]; omega)
      have a1 : ∀ w, (binOp .add 9 (str t) (.string ⟨#[98, 108, 111, 99, 107, 32]⟩)).run Tryd.prog w = .ok (str (t ++ sBlock)) w := run_add_r t ⟨#[98, 108, 111, 99, 107, 32]⟩ (by simp; omega)
      have a3 : ∀ w, (binOp .add 9 (str ((t ++ sBlock) ++ Lib.itoa b)) (.string ⟨#[58, 32]⟩)).run Tryd.prog w = .ok (str (((t ++ sBlock) ++ Lib.itoa b) ++ sColon)) w := run_add_r ((t ++ sBlock) ++ Lib.itoa b) ⟨#[58, 32]⟩ (by simp [sBlock]; omega)
      clear hil hbk htl
      generalize ((t ++ sBlock) ++ Lib.itoa b) ++ sColon = t4 at *
      generalize (t ++ sBlock) ++ Lib.itoa b = t3 at *
      generalize t ++ sBlock = t2 at *
      generalize Lib.itoa b = ti at *
      go_wp2_with (go_at_call 19; (with_reducible refine (DG.out _).mono ?_); rintro e w1 ⟨rfl, hb1⟩; have HB1 := Lib.hid (HB.out.later hb1); clear hb1)
      go_roundw
      case rel => exact ⟨k + 1, t4, by omega, by go_num, rfl, HT2, HB1⟩
      case measure => simp only [intOf]; omega
    · obtain rfl : k = n := by omega
      have DG := Lib.hid (fun W => Digits_any code HCd.out.1 HCd.out.2 W)
      have hil := Lib.itoa_length_le code HCd.out.1 HCd.out.2
      have HT2 : Hid ((t ++ sError) ++ Lib.itoa code = textL bs code) := by
        have := HT.out
        rw [List.take_of_length_le (by have := HLn.out; omega)] at this
        show _ = _
        rw [textL_eq, this, List.append_assoc]
      have a1 : ∀ w, (binOp .add 9 (str t) (.string ⟨#[101, 114, 114, 111, 114, 32]⟩)).run Tryd.prog w = .ok (str (t ++ sError)) w := run_add_r t ⟨#[101, 114, 114, 111, 114, 32]⟩ (by simp; omega)
      have a2 := run_add (t ++ sError) (Lib.itoa code) (by simp [sError]; omega)
      clear hil htl
      generalize (t ++ sError) ++ Lib.itoa code = t3 at *
      generalize t ++ sError = t2 at *
      generalize Lib.itoa code = ti at *
      go_wp2_with (go_at_call 19; (with_reducible refine (DG.out _).mono ?_); rintro e w1 ⟨rfl, hb1⟩; have HB1 := Lib.hid (HB.out.later hb1); clear hb1)
      go_ret
      exact ⟨by rw [← HT2.out]; rfl, HB1.out.bel⟩
end Go.Proofs.YtjdalgnkkdfnnaaDoor
