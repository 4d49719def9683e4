/-
  The reference's Pack.
-/
import Derived.Test.YtbflfnaiihbjoaaCodeH
namespace Go.Proofs.Ytbflfnaiihbjoaa
open Go.RowKit
set_option linter.unusedVariables false
set_option linter.unusedSimpArgs false

set_option maxHeartbeats 800000 in
theorem refPack_any (A : Option Addr) (n c : Nat) (l : List (Int × Int)) (w : World) (h : Flds w A n c l) (hn : n ≤ 1000000) :
    Calls Try.prog 15 #[.slice A n c] w fun e w' => ∃ A' m c', e = .returned (.tuple #[.slice A' m c', .int .i64 (packE l)]) ∧ Bytes8 w' A' m c' (packB l) ∧ Below w.heap.size w w' := by
  by_cases hp : 0 < n
  · obtain ⟨b, off, rfl, hb, hcell⟩ := h.row.lit (by rw [flds_length, h.len]; omega)
    have HF := Lib.hid h
    have HC := Lib.hid hcell
    clear h hcell
    go_enter Try.func15, Try.ntmps15
    go_wp2
    go_loopw [4, 5] (fun v i wr => ∃ k : Nat, k ≤ n ∧ i = .int .i64 k ∧ Hid (packE (l.take k) = 0) ∧ Hid (wr.ownsRow w.heap.size 5 1 v (encs (l.take k)).length (u8s (encs (l.take k)))) ∧ w.heap.size ≤ wr.heap.size ∧ Below w.heap.size w wr) (fun _ i _ => n - (intOf i).toNat)
    case atStart => exact ⟨0, by omega, rfl, rfl, World.ownsRow_nil _ _ _ _, Nat.le_refl _, Below.refl _ _⟩
    case round =>
      obtain ⟨k, hk, rfl, hE, hown, hs, hbel⟩ := hrel
      by_cases hlt : k < n
      · have hkl : k < l.length := by have := HF.out.len; omega
        have h0 := flds_at l k hkl
        have hc0 : wr.cell? ⟨b, off + k * 2, none⟩ = some (.int .i64 l[k].1) := (hbel.cell (p := ⟨b, off + k * 2, none⟩) hb).trans (HC.out _ _ h0.1)
        have hc1 : wr.cell? ⟨b, off + k * 2 + 1, none⟩ = some (.int .i64 l[k].2) := (hbel.cell (p := ⟨b, off + k * 2 + 1, none⟩) hb).trans (HC.out _ _ h0.2)
        obtain ⟨⟨hb1, hb2⟩, hb3, hb4⟩ := HF.out.bds l[k] (List.getElem_mem _)
        have hat := packE_at hkl hE.out
        have hst := packE_step hkl hE.out
        have hen := encs_step hkl
        have hle := encs_le hE.out
        rw [List.length_take] at hle
        clear h0
        simp only [packE] at hat
        generalize hp1 : l[k].1 = a at *
        generalize hp2 : l[k].2 = x at *
        clear hp1 hp2
        cases hw : isW a with
        | false =>
          have hr : Hid (packE l = 1) := by rw [hat]; simp [hw, Hid]
          have W := Lib.hid (fun W => width_any a W false hw)
          clear hat hst hen hle hw
          go_wp2_with (go_at_call 27; refine (W.out _).mono ?_; rintro e w' ⟨rfl, rfl⟩)
          go_ret2
          exact ⟨none, 0, 0, by rw [hr.out]; rfl, by simpa [packB, hr.out] using Bytes8.nil _, hbel⟩
        | true =>
          have W := Lib.hid (fun W => width_any a W true hw)
          cases hf : fitsB x a with
          | false =>
            have hr : Hid (packE l = 2) := by rw [hat]; simp [hw, hf, Hid]
            have F := Lib.hid (fun W => refFits_any x a W hw ⟨hb3, hb4⟩ false hf)
            clear hat hst hen hle hw hf
            go_wp2_with (go_at_call 27; refine (W.out _).mono ?_; rintro e w' ⟨rfl, rfl⟩)
            go_region_with (go_at_call 24; refine (F.out _).mono ?_; rintro e w1 ⟨rfl, hb1⟩)
            all_goals go_wp2
            all_goals go_ret2
            all_goals exact ⟨none, 0, 0, by rw [hr.out]; rfl, by simpa [packB, hr.out] using Bytes8.nil _, hbel.drew.trans (Below.mono (B := wr.heap.size) hb1 hs)⟩
          | true =>
            have F := Lib.hid (fun W => refFits_any x a W hw ⟨hb3, hb4⟩ true hf)
            have hx0 := fits_bounds hf
            have ha8 : 0 ≤ a ∧ a ≤ 8 := by rcases isW_cases hw with h | h | h | h <;> omega
            obtain ⟨ha0, ha8⟩ := ha8
            have hst' := Lib.hid (hst hw hf)
            have hen' := Lib.hid hen
            obtain ⟨y, rfl⟩ := Int.eq_ofNat_of_zero_le hx0
            obtain ⟨m, rfl⟩ := Int.eq_ofNat_of_zero_le ha0
            have hBy : ∀ W : World, Calls Try.prog 25 #[.int .i64 y, .int .i64 m] W fun e w' => ∃ A' c', e = .returned (.slice A' m c') ∧ Bytes8 w' A' m c' (encN m y) ∧ Below W.heap.size W w' :=
              fun W => (Bytes_any y m W (by omega) (by omega)).mono fun e w' ⟨v', he, ho, hb⟩ => by
                obtain ⟨A', c', rfl, hB⟩ := Bytes8.of_own ho
                exact ⟨A', c', he, hB, hb⟩
            have HBy := Lib.hid hBy
            clear hat hst hen hw hf hBy
            go_wp2_with (go_at_call 27; refine (W.out _).mono ?_; rintro e w' ⟨rfl, rfl⟩)
            go_region_with (go_at_call 24; refine (F.out _).mono ?_; rintro e w1 ⟨rfl, hb1⟩)
            all_goals
              have hb1' : Below wr.heap.size wr w1 := (Below.refl _ _).drew.trans hb1
              have hc0' := (hb1'.cell (cell_lt hc0)).trans hc0
              have hc1' := (hb1'.cell (cell_lt hc1)).trans hc1
              have ho1 := own_below hown hb1'
              have hs1 := Nat.le_trans hs hb1'.size
              have hw1 := hbel.trans (hb1'.mono hs)
              clear hb1 hb1' hc0 hc1
            all_goals go_wp2
            all_goals go_region_law (first
              | (go_simp; go_at_call 25; refine (HBy.out _).mono ?_; rintro e w2 ⟨A2, c2, rfl, HB2, hb2⟩; have hb2' : Below w1.heap.size w1 w2 := (Below.refl _ _).drew.trans hb2; have ho2 := own_below ho1 hb2'; have hs2 := Nat.le_trans hs1 hb2'.size; have hw2 := hw1.trans (hb2'.mono hs1))
              | (refine step_append_row _ rfl (.tmp 31) (.tmp 42) _ rfl w.heap.size 5 _ 1 Try.underlying22 info_u8 rfl _ _ _ rfl ho2 hs2 _ (u8s (encN m y)) m c2 rfl (by rw [u8s_length, encN_length]) HB2.row (u8s_one _) (by omega) (by omega) ?_; intro v3 w3 ho3 hs3 hb3))
            all_goals
              have hw3 := hw2.trans hb3
              go_wp2
              go_roundw
              case rel =>
                refine ⟨k + 1, by omega, by go_num, hst', ?_, hs3, hw3⟩
                have := ho3.out
                rw [← u8s_append] at this
                have he := hen'.out
                simp only [Int.toNat_natCast] at he
                rw [he, List.length_append, encN_length]
                exact this
              case measure => simp [intOf]; omega
      · obtain rfl : k = n := by omega
        have hE' : Hid (packE l = 0) := by
          have := hE.out
          rwa [List.take_of_length_le (by have := HF.out.len; omega)] at this
        have hown' : Hid (wr.ownsRow w.heap.size 5 1 u4 (encs l).length (u8s (encs l))) := by
          have := hown.out
          rwa [List.take_of_length_le (by have := HF.out.len; omega)] at this
        obtain ⟨A', c', hv, hB⟩ := Bytes8.of_own hown'.out
        have HV := Lib.hid hv
        clear hv
        go_wp2
        go_ret2
        exact ⟨A', _, c', by rw [hE'.out, ← HV.out]; rfl, by simpa [packB, hE'.out] using hB, hbel⟩
  · obtain rfl : n = 0 := by omega
    obtain rfl : l = [] := List.eq_nil_of_length_eq_zero h.len
    clear h
    go_enter Try.func15, Try.ntmps15
    go_wp2
    refine wp_loop_rounds 1 ?_
    rw [rounds_succ]
    go_wp2
    go_ret2
    exact ⟨none, 0, 0, rfl, Bytes8.nil _, Below.refl _ _⟩

end Go.Proofs.Ytbflfnaiihbjoaa
