/-
  The walk of SlotsBack.
-/
import Derived.Test.YtolapeocdaknjaaSlotD
import Derived.Test.YtolapeocdaknjaaMemI
namespace Go.Proofs.Ytolapeocdaknjaa
open Go.RowKit
set_option linter.unusedVariables false
set_option linter.unusedSimpArgs false

theorem sltBd_ok {x : Slt} (h : sltOk x = true) : sltBd x := by
  obtain ⟨a, b, c⟩ := x
  simp only [sltOk, okP, slotS, sltV, inB, List.zip_cons_cons, List.zip_nil_right, List.all_cons, List.all_nil, Bool.and_true, Bool.and_eq_true, decide_eq_true_eq] at h
  simp only [sltBd, i64b]
  omega
theorem readSE10_cases (b : List UInt8) : readSE10 b = 0 ∨ (readSE10 b = 2 ∧ readSL10 b = []) ∨ (readSE10 b = 7 ∧ readSL10 b = []) := by
  unfold readSL10 readSE10
  split
  · split
    · exact .inl rfl
    · exact .inr (.inl ⟨rfl, by simp⟩)
  · exact .inr (.inr ⟨rfl, by simp⟩)

/-- what stands at the law's end: the bytes are read; of what was read the bytes are those -/
structure EndS (w : World) (A : Option Addr) (q c : Nat) (x : Int) (m : Nat) (F : List Slt) (z : ByteArray) : Prop where
  rd : ∀ W, Below w.heap.size w W → Calls Try.prog 9 #[.slice A q c] W fun e w' => ∃ A' c', e = .returned (.tuple #[.slice A' m c', .int .i64 x]) ∧ Trs w' A' m c' F ∧ Below w.heap.size w w'
  wr : ∀ W A' c', Below w.heap.size w W → x = 0 → Trs W A' m c' F → Calls Try.prog 7 #[.slice A' m c'] W fun e w' => ∃ g, e = .returned (.tuple #[.slice (some ⟨g, 0, none⟩) 244 244, .int .i64 0]) ∧ (convert 24 9 (.slice (some ⟨g, 0, none⟩) 244 244)).run Try.prog w' = .ok (.string z) w' ∧ (convert 24 9 (.slice A q c)).run Try.prog w' = .ok (.string z) w' ∧ Below w.heap.size w w'
  lv : ∀ W, Below w.heap.size w W → Calls Try.prog 6 #[] W fun e w' => e = .returned (.bool true) ∧ Below w.heap.size w w'

theorem endS {w : World} {A : Option Addr} {q c : Nat} {l : List UInt8} (h : Bytes8 w A q c l) : ∃ x m F z, (x = 0 ∨ (x = 2 ∧ m = 0) ∨ (x = 7 ∧ m = 0)) ∧ EndS w A q c x m F z := by
  refine ⟨readSE10 l, (readSL10 l).length, readSL10 l, ⟨l.toArray⟩, ?_, ?_, ?_, ?_⟩
  · rcases readSE10_cases l with e0 | ⟨e0, e1⟩ | ⟨e0, e1⟩
    · exact .inl e0
    · exact .inr (.inl ⟨e0, by rw [e1]; rfl⟩)
    · exact .inr (.inr ⟨e0, by rw [e1]; rfl⟩)
  · intro W hW
    refine (SlRead_any A q c l W (h.below hW)).mono ?_
    rintro e w' ⟨A', m, c', rfl, hI, hb⟩
    obtain rfl := hI.len
    exact ⟨A', c', rfl, hI, hW.trans (hb.mono hW.size)⟩
  · intro W A' c' hW e0 hI
    obtain ⟨hl, hok, hen⟩ := slots_put e0
    rw [readSL10, if_pos e0] at hI ⊢
    refine (SlPut_any A' _ c' _ W hI (fun x hx => sltBd_ok ((okS10_iff.1 hok).2 x hx))).mono ?_
    rintro e w' ⟨h1, _, hb⟩
    obtain ⟨g, rfl, hO⟩ := h1 hok
    rw [hen] at hO
    exact ⟨g, rfl, run_str (hO.bytes (n := 244) hl (by omega)), run_str (h.below (hW.trans (hb.mono hW.size))), hW.trans (hb.mono hW.size)⟩
  · intro W hW
    exact (lives10_any W).mono fun e w' ⟨h1, h2⟩ => ⟨h1, hW.trans (h2.mono hW.size)⟩

set_option maxRecDepth 100000 in
set_option maxHeartbeats 1600000 in
theorem sback_long (A : Option Addr) (n c : Nat) (A2 : Option Addr) (n2 c2 : Nat) (w : World) (hn : n ≤ 9223372036854775807) (h : 100 < n) :
    Calls Try.prog 5 #[.slice A n c, .slice A2 n2 c2] w fun e w' => e = .returned (.bool true) ∧ Below w.heap.size w w' := by
  go_enter Try.func5, Try.ntmps5
  go_wp2_with (go_at_call 6; (with_reducible refine (lives10_any _).mono ?_); rintro e w1 ⟨rfl, hb1⟩)
  go_ret
  exact ⟨rfl, hb1⟩

set_option maxRecDepth 100000 in
set_option maxHeartbeats 3200000 in
theorem sback_bad (A : Option Addr) (n c : Nat) (l : List Slt) (A2 : Option Addr) (n2 c2 : Nat) (l2 : List UInt8) (w : World) (h : Trs w A n c l) (hbd : ∀ q ∈ l, sltBd q) (hn : n ≤ 100) (h2 : Bytes8 w A2 n2 c2 l2) (hr : okS10 l = false) :
    Calls Try.prog 5 #[.slice A n c, .slice A2 n2 c2] w fun e w' => e = .returned (.bool true) ∧ Below w.heap.size w w' := by
  obtain ⟨q, l', hB, hq, hcase⟩ := cut_bytes 600 h2
  have hn2 := h2.le
  obtain ⟨x, m3, F, z, hx, hE⟩ := endS hB
  have E := Lib.hid hE
  have P : Hid (Calls Try.prog 7 #[.slice A n c] w fun e w' => e = .returned (.tuple #[.slice none 0 0, .int .i64 1]) ∧ Below w.heap.size w w') := (SlPut_any A n c l w h hbd).mono fun e w' ⟨_, h2, h3⟩ => ⟨h2 hr, h3⟩
  clear h h2 hr hB hE hbd
  rcases hcase with ⟨h1, h3, rfl⟩ | ⟨h1, rfl⟩
  all_goals rcases hx with rfl | ⟨rfl, rfl⟩ | ⟨rfl, rfl⟩
  all_goals go_enter Try.func5, Try.ntmps5
  all_goals go_wp2_with (first
    | (go_at_call 7; (with_reducible refine (P.out).mono ?_); rintro e w1 ⟨rfl, hb1⟩)
    | (go_at_call 9; (with_reducible refine (E.out.rd _ hb1).mono ?_); rintro e w3 ⟨A3, c3, rfl, hI3, hb3⟩)
    | (go_at_call 7; (with_reducible refine (E.out.wr _ _ _ hb3 rfl hI3).mono ?_); rintro e w4 ⟨g4, rfl, cv1, cv2, hb4⟩)
    | (go_at_call 6; (with_reducible refine (E.out.lv _ (by first | assumption | exact hb4.drew)).mono ?_); rintro e w5 ⟨rfl, hb5⟩))
  all_goals go_ret
  all_goals exact ⟨rfl, hb5⟩

/-- what was put is read -/
theorem slots_rd {g : Nat} {l : List Slt} (W : World) {B : Nat} (hO : Own8 W B g (encS10 l)) (hr : okS10 l = true) :
    Calls Try.prog 9 #[.slice (some ⟨g, 0, none⟩) 244 244] W fun e w' => ∃ A' c', e = .returned (.tuple #[.slice A' l.length c', .int .i64 0]) ∧ Trs w' A' l.length c' l ∧ Below W.heap.size W w' := by
  refine (SlRead_any _ 244 244 _ W (hO.bytes (n := 244) (encS10_length (okS10_iff.1 hr).1) (by omega))).mono ?_
  rintro e w' ⟨A', m, c', rfl, hI, hb⟩
  obtain ⟨e0, e1⟩ := slots_read hr
  rw [readSL10, if_pos e0, e1] at hI
  rw [e0]
  obtain rfl := hI.len
  exact ⟨A', c', rfl, hI, hb⟩

set_option maxRecDepth 100000 in
set_option maxHeartbeats 3200000 in
theorem sback_good (A : Option Addr) (n c : Nat) (l : List Slt) (A2 : Option Addr) (n2 c2 : Nat) (l2 : List UInt8) (w : World) (h : Trs w A n c l) (hbd : ∀ q ∈ l, sltBd q) (hn : n ≤ 100) (h2 : Bytes8 w A2 n2 c2 l2) (hr : okS10 l = true) :
    Calls Try.prog 5 #[.slice A n c, .slice A2 n2 c2] w fun e w' => e = .returned (.bool true) ∧ Below w.heap.size w w' := by
  obtain ⟨q, l', hB, hq, hcase⟩ := cut_bytes 600 h2
  have hn2 := h2.le
  obtain ⟨x, m3, F, z, hx, hE⟩ := endS hB
  have E := Lib.hid hE
  have hl := h.len
  have P : Hid (Calls Try.prog 7 #[.slice A n c] w fun e w' => ∃ g, e = .returned (.tuple #[.slice (some ⟨g, 0, none⟩) 244 244, .int .i64 0]) ∧ Own8 w' w.heap.size g (encS10 l) ∧ Below w.heap.size w w') := (SlPut_any A n c l w h hbd).mono fun e w' ⟨h1, _, h3⟩ => by
    obtain ⟨g, he, hO⟩ := h1 hr
    exact ⟨g, he, hO, h3⟩
  have RD : Hid (∀ (W : World) (g : Nat), Own8 W w.heap.size g (encS10 l) → Below w.heap.size w W → Calls Try.prog 9 #[.slice (some ⟨g, 0, none⟩) 244 244] W fun e w' => ∃ A' c', e = .returned (.tuple #[.slice A' n c', .int .i64 0]) ∧ n ≤ c' ∧ Below w.heap.size w w' ∧
      ∀ k, k < n → k < l.length → ∃ b off b2 off2 x0 x1 x2, A = some ⟨b, off, none⟩ ∧ A' = some ⟨b2, off2, none⟩ ∧ ∀ W2, Below w'.heap.size w' W2 → (W2.cell? ⟨b, off + k * 3, none⟩ = some (.int .i64 x0) ∧ W2.cell? ⟨b, off + k * 3 + 1, none⟩ = some (.int .i64 x1) ∧ W2.cell? ⟨b, off + k * 3 + 2, none⟩ = some (.int .i64 x2)) ∧ W2.cell? ⟨b2, off2 + k * 3, none⟩ = some (.int .i64 x0) ∧ W2.cell? ⟨b2, off2 + k * 3 + 1, none⟩ = some (.int .i64 x1) ∧ W2.cell? ⟨b2, off2 + k * 3 + 2, none⟩ = some (.int .i64 x2)) := fun W g hO hW =>
    (slots_rd W hO hr).mono fun e w' ⟨A', c', h1, hI, hb⟩ => by
      rw [hl] at h1 hI
      have hb' := hW.trans (hb.mono hW.size)
      refine ⟨A', c', h1, hI.cap, hb', fun k hk hkl => ?_⟩
      obtain ⟨b, off, x0, x1, x2, e1, g1, g2, g3, g4, g5⟩ := trs_at h hk hkl
      obtain ⟨b2, off2, y0, y1, y2, f1, f2, f3, f4, f5, f6⟩ := trs_at hI hk hkl
      rw [g2] at f3
      cases f3
      refine ⟨b, off, b2, off2, x0, x1, x2, e1, f1, fun W2 hW2 => ?_⟩
      have hw2 := hb'.trans (hW2.mono hb'.size)
      exact ⟨⟨(hw2.cell (p := ⟨b, off + k * 3, none⟩) g1).trans g3, (hw2.cell (p := ⟨b, off + k * 3 + 1, none⟩) g1).trans g4, (hw2.cell (p := ⟨b, off + k * 3 + 2, none⟩) g1).trans g5⟩, (hW2.cell (p := ⟨b2, off2 + k * 3, none⟩) f2).trans f4, (hW2.cell (p := ⟨b2, off2 + k * 3 + 1, none⟩) f2).trans f5, (hW2.cell (p := ⟨b2, off2 + k * 3 + 2, none⟩) f2).trans f6⟩
  have HL := Lib.hid hl
  have hcap := h.cap
  clear h h2 hr hB hE hl hbd
  rcases hcase with ⟨h1, h3, rfl⟩ | ⟨h1, rfl⟩
  all_goals go_enter Try.func5, Try.ntmps5
  all_goals go_wp2_with (first
    | (go_at_call 7; (with_reducible refine (P.out).mono ?_); rintro e w1 ⟨g1, rfl, hO1, hb1⟩; have HO1 := Lib.hid hO1; clear hO1)
    | (go_at_call 9; (with_reducible refine (RD.out _ _ HO1.out hb1).mono ?_); rintro e w2 ⟨A3, c3, rfl, hc3, hb2, hcell3⟩; have HC3 := Lib.hid hcell3; clear hcell3))
  all_goals go_loopw [9] (fun i wr => ∃ k : Nat, k ≤ n ∧ i = .int .i64 k ∧ Hid (Below w2.heap.size w2 wr)) (fun i _ => n - (intOf i).toNat)
  all_goals first
    | exact ⟨0, by omega, rfl, Below.refl _ _⟩
    | skip
  all_goals
    obtain ⟨k, hk, rfl, hbr⟩ := hrel
    by_cases hlt : k < n
    · obtain ⟨b, off, b2, off2, x0, x1, x2, rfl, rfl, hcs⟩ := HC3.out k hlt (by have := HL.out; omega)
      obtain ⟨⟨d0, d1, d2⟩, d3, d4, d5⟩ := hcs _ hbr.out
      clear hcs
      go_wp2
      go_quiet (fail)
      go_wp2
      go_roundw
      case rel => exact ⟨k + 1, by omega, by go_num, below_drewN hbr.out _⟩
      case measure => simp [intOf]; omega
    · obtain rfl : k = n := by omega
      have hBX : Below w.heap.size w wr := hb2.trans (hbr.out.mono hb2.size)
      clear hk hlt hbr
      rcases hx with rfl | ⟨rfl, rfl⟩ | ⟨rfl, rfl⟩
      all_goals go_wp2_with (first
        | (go_at_call 9; (with_reducible refine (E.out.rd _ hBX).mono ?_); rintro e w8 ⟨A8, c8, rfl, hI8, hb8⟩)
        | (go_at_call 7; (with_reducible refine (E.out.wr _ _ _ hb8 rfl hI8).mono ?_); rintro e w9 ⟨g9, rfl, cv1, cv2, hb9⟩)
        | (go_at_call 6; (with_reducible refine (E.out.lv _ (by first | assumption | exact hb9.drew)).mono ?_); rintro e w10 ⟨rfl, hb10⟩))
      all_goals go_ret
      all_goals exact ⟨rfl, hb10⟩

theorem slotsback_walk (A : Option Addr) (n c : Nat) (l : List Slt) (A2 : Option Addr) (n2 c2 : Nat) (l2 : List UInt8) (w : World) (h : Trs w A n c l) (hb : ∀ q ∈ l, (-9223372036854775808 ≤ q.1 ∧ q.1 ≤ 9223372036854775807) ∧ (-9223372036854775808 ≤ q.2.1 ∧ q.2.1 ≤ 9223372036854775807) ∧ (-9223372036854775808 ≤ q.2.2 ∧ q.2.2 ≤ 9223372036854775807)) (h2 : Bytes8 w A2 n2 c2 l2) :
    Calls Try.prog 5 #[.slice A n c, .slice A2 n2 c2] w fun e w' => e = .returned (.bool true) ∧ Below w.heap.size w w' := by
  have hbd : ∀ q ∈ l, sltBd q := hb
  by_cases hn : n ≤ 100
  · cases hr : okS10 l with
    | false => exact sback_bad A n c l A2 n2 c2 l2 w h hbd hn h2 hr
    | true => exact sback_good A n c l A2 n2 c2 l2 w h hbd hn h2 hr
  · exact sback_long A n c A2 n2 c2 w (Nat.le_trans h.cap h.most) (by omega)

end Go.Proofs.Ytolapeocdaknjaa
