/-
  Layer 4's checks handed over, and Open.
-/
import Derived.Test.YtldgdgkojlohfaaSealB
import Derived.LoopTactic
import Derived.OwnWalk
namespace Go.Proofs.Ytldgdgkojlohfaa
open Go.RowKit
set_option linter.unusedVariables false
set_option linter.unusedSimpArgs false

/-- the six closures -/
def fns (pb pk pn : Nat) : List Value :=
  [.func (.func 33) #[] #[.pointer (some ⟨pk, 0, none⟩), .pointer (some ⟨pn, 0, none⟩)],
   .func (.func 35) #[] #[.pointer (some ⟨pb, 0, none⟩)],
   .func (.func 36) #[] #[.pointer (some ⟨pb, 0, none⟩), .pointer (some ⟨pk, 0, none⟩)],
   .func (.func 37) #[] #[.pointer (some ⟨pb, 0, none⟩), .pointer (some ⟨pn, 0, none⟩)],
   .func (.func 38) #[] #[.pointer (some ⟨pb, 0, none⟩), .pointer (some ⟨pk, 0, none⟩)],
   .func (.func 39) #[] #[.pointer (some ⟨pb, 0, none⟩)]]

set_option maxHeartbeats 400000 in
theorem checks_any (A : Option Addr) (n c : Nat) (l : List UInt8) (k no : Int) (w : World) (h : Bytes8 w A n c l) :
    Calls Try.prog 24 #[.slice A n c, .int .i64 k, .int .i64 no] w fun e w' => ∃ g pb pk pn, e = .returned (.slice (some ⟨g, 0, none⟩) 6 6) ∧ Cap w w' pb pk pn A n c l k no ∧ Row w' (some ⟨g, 0, none⟩) (fns pb pk pn) := by
  have HB := Lib.hid h
  clear h
  have hmf : ∀ (fn : Fn) (first cap : Array Value) (w : World), (Instr.makeFunc fn first cap).run Try.prog w = .ok (.func fn first cap) w := fun _ _ _ _ => rfl
  go_enter Try.func24, Try.ntmps24
  go_wp2
  go_ret
  have b0 : Below w.heap.size w (w.alloc (.cells #[.slice A n c] 22)) := (Below.refl _ _).alloc (Nat.le_refl _) _
  have c1 := cell_of_row _ w.heap.size 0 _ _ _ (heap_alloc_new w (.cells #[.slice A n c] 22))
  generalize hw1 : w.alloc (.cells #[.slice A n c] 22) = w1 at *
  have s1 : w1.heap.size = w.heap.size + 1 := by rw [← hw1]; simp
  have b1 : Below w1.heap.size w1 (w1.alloc (.cells #[.int .i64 k] 3)) := (Below.refl _ _).alloc (Nat.le_refl _) _
  have c2 := cell_of_row _ w1.heap.size 0 _ _ _ (heap_alloc_new w1 (.cells #[.int .i64 k] 3))
  generalize hw2 : w1.alloc (.cells #[.int .i64 k] 3) = w2 at *
  have s2 : w2.heap.size = w1.heap.size + 1 := by rw [← hw2]; simp
  have b2 : Below w2.heap.size w2 (w2.alloc (.cells #[.int .i64 no] 3)) := (Below.refl _ _).alloc (Nat.le_refl _) _
  have c3 := cell_of_row _ w2.heap.size 0 _ _ _ (heap_alloc_new w2 (.cells #[.int .i64 no] 3))
  generalize hw3 : w2.alloc (.cells #[.int .i64 no] 3) = w3 at *
  have s3 : w3.heap.size = w2.heap.size + 1 := by rw [← hw3]; simp
  have b3 : Below w3.heap.size w3 (w3.alloc (.cells (fns w.heap.size w1.heap.size w2.heap.size).toArray 50)) := (Below.refl _ _).alloc (Nat.le_refl _) _
  have c4 : Row (w3.alloc (.cells (fns w.heap.size w1.heap.size w2.heap.size).toArray 50)) (some ⟨w3.heap.size, 0, none⟩) (fns w.heap.size w1.heap.size w2.heap.size) := Row.of_block (heap_alloc_new w3 _)
  have b12 := b1.trans (b2.mono b1.size)
  have b13 := b12.trans (b3.mono b12.size)
  have b23 := b2.trans (b3.mono b2.size)
  have b03 := b0.trans (b13.mono b0.size)
  have l1 := cell_lt c1
  have l2 := cell_lt c2
  have l3 := cell_lt c3
  have key := And.intro (Cap.mk (w0 := w) (pb := w.heap.size) (pk := w1.heap.size) (pn := w2.heap.size) (k := k) (no := no) b03 ((b13.cell (p := ⟨w.heap.size, 0, none⟩) l1).trans c1) ((b23.cell (p := ⟨w1.heap.size, 0, none⟩) l2).trans c2) ((b3.cell (p := ⟨w2.heap.size, 0, none⟩) l3).trans c3) (HB.out.below b03)) c4
  simp only [s3, s2, s1] at key
  exact ⟨_, _, _, _, rfl, key⟩

theorem Cap.self {w0 w : World} {pb pk pn : Nat} {A : Option Addr} {n c : Nat} {l : List UInt8} {k no : Int} (h : Cap w0 w pb pk pn A n c l k no) : Cap w w pb pk pn A n c l k no := ⟨Below.refl _ _, h.b, h.knd, h.num, h.B⟩

set_option maxRecDepth 100000 in
set_option maxHeartbeats 3200000 in
theorem Open_any (A : Option Addr) (n c : Nat) (l : List UInt8) (k no : Int) (w : World) (h : Bytes8 w A n c l) :
    Calls Try.prog 12 #[.slice A n c, .int .i64 k, .int .i64 no] w fun e w' => ∃ A' m c', e = .returned (.tuple #[.slice A' m c', .int .i64 (openE l k no)]) ∧ Bytes8 w' A' m c' (openB l k no) ∧ Below w.heap.size w w' := by
  have CK := Lib.hid (checks_any A n c l k no w h)
  have hn := h.len
  have HN := Lib.hid hn
  obtain ⟨i0, hi0, hz0, hz1, hz2⟩ := info_parts info_u8
  clear h hn
  go_enter Try.func12, Try.ntmps12
  go_wp2_with (go_at_call 24; refine (CK.out).mono ?_; rintro e w1 ⟨g, pb, pk, pn, rfl, hC, hR⟩)
  have HC := Lib.hid hC
  have HR := Lib.hid hR
  clear hC hR CK
  go_loopw [17] (fun i wr => ∃ j : Nat, j ≤ 6 ∧ i = .int .i64 j ∧ Hid (Cap w wr pb pk pn A n c l k no) ∧ Hid (Row wr (some ⟨g, 0, none⟩) (fns pb pk pn)) ∧ Hid (Passed l k no j)) (fun i _ => 6 - (intOf i).toNat)
  case atStart => exact ⟨0, by omega, rfl, HC, HR, Passed.zero l k no⟩
  case round =>
    clear HC HR
    obtain ⟨j, hj, rfl, HC, HR, HP⟩ := hrel
    rcases (show j = 0 ∨ j = 1 ∨ j = 2 ∨ j = 3 ∨ j = 4 ∨ j = 5 ∨ j = 6 by omega) with rfl | rfl | rfl | rfl | rfl | rfl | rfl
    · have hc := (HR.out.at_ (k := 0) rfl)
      rw [Addr.add_lit] at hc
      have CH := Lib.hid (chk1_any HC.out)
      have HO := Lib.hid (fun h0 : chk l k no 0 ≠ 0 => openE_first (by omega) HP.out h0)
      have HS := Lib.hid (fun h0 : chk l k no 0 = 0 => HP.out.succ h0)
      generalize chk l k no 0 = x at *
      by_cases hx : x = 0
      · subst hx
        have HS2 := Lib.hid (HS.out rfl)
        clear HS HO
        go_wp2_with (go_at_call 33; (with_reducible refine (CH.out).mono ?_); rintro e w' ⟨rfl, rfl⟩)
        go_roundw
        case rel => exact ⟨1, by omega, rfl, HC, HR, HS2⟩
        case measure => simp [intOf]
      · have q : (x != 0) = true := by simpa using hx
        have E : Hid (openE l k no = x) := HO.out hx
        clear hx HO HS
        go_wp2_with (go_at_call 33; (with_reducible refine (CH.out).mono ?_); rintro e w' ⟨rfl, rfl⟩)
        go_ret2
        have e0 : openB l k no = [] := by rw [openB, if_neg]; rw [E.out]; intro h; simp [h] at q
        exact ⟨none, 0, 0, by rw [E.out]; rfl, by rw [e0]; exact Bytes8.nil _, HC.out.bel⟩
    · have hc := (HR.out.at_ (k := 1) rfl)
      rw [Addr.add_lit] at hc
      have CH := Lib.hid (chk2_any HC.out)
      have HO := Lib.hid (fun h0 : chk l k no 1 ≠ 0 => openE_first (by omega) HP.out h0)
      have HS := Lib.hid (fun h0 : chk l k no 1 = 0 => HP.out.succ h0)
      generalize chk l k no 1 = x at *
      by_cases hx : x = 0
      · subst hx
        have HS2 := Lib.hid (HS.out rfl)
        clear HS HO
        go_wp2_with (go_at_call 35; (with_reducible refine (CH.out).mono ?_); rintro e w' ⟨rfl, rfl⟩)
        go_roundw
        case rel => exact ⟨2, by omega, rfl, HC, HR, HS2⟩
        case measure => simp [intOf]
      · have q : (x != 0) = true := by simpa using hx
        have E : Hid (openE l k no = x) := HO.out hx
        clear hx HO HS
        go_wp2_with (go_at_call 35; (with_reducible refine (CH.out).mono ?_); rintro e w' ⟨rfl, rfl⟩)
        go_ret2
        have e0 : openB l k no = [] := by rw [openB, if_neg]; rw [E.out]; intro h; simp [h] at q
        exact ⟨none, 0, 0, by rw [E.out]; rfl, by rw [e0]; exact Bytes8.nil _, HC.out.bel⟩
    · have hc := (HR.out.at_ (k := 2) rfl)
      rw [Addr.add_lit] at hc
      have CH := Lib.hid (chk3_any HC.out.self (chk_len (HP.out 1 (by omega))))
      have HO := Lib.hid (fun h0 : chk l k no 2 ≠ 0 => openE_first (by omega) HP.out h0)
      have HS := Lib.hid (fun h0 : chk l k no 2 = 0 => HP.out.succ h0)
      generalize chk l k no 2 = x at *
      by_cases hx : x = 0
      · subst hx
        have HS2 := Lib.hid (HS.out rfl)
        clear HS HO
        go_wp2_with (go_at_call 36; (with_reducible refine (CH.out).mono ?_); rintro e w2 ⟨rfl, hC2⟩; have HC2 := Lib.hid (HC.out.later hC2.bel); have HR2 := Lib.hid (HR.out.below hC2.bel); clear hC2)
        go_roundw
        case rel => exact ⟨3, by omega, rfl, HC2, HR2, HS2⟩
        case measure => simp [intOf]
      · have q : (x != 0) = true := by simpa using hx
        have E : Hid (openE l k no = x) := HO.out hx
        clear hx HO HS
        go_wp2_with (go_at_call 36; (with_reducible refine (CH.out).mono ?_); rintro e w2 ⟨rfl, hC2⟩; have HC2 := Lib.hid (HC.out.later hC2.bel); have HR2 := Lib.hid (HR.out.below hC2.bel); clear hC2)
        go_ret2
        have e0 : openB l k no = [] := by rw [openB, if_neg]; rw [E.out]; intro h; simp [h] at q
        exact ⟨none, 0, 0, by rw [E.out]; rfl, by rw [e0]; exact Bytes8.nil _, HC2.out.bel⟩
    · have hc := (HR.out.at_ (k := 3) rfl)
      rw [Addr.add_lit] at hc
      have CH := Lib.hid (chk4_any HC.out.self (chk_len (HP.out 1 (by omega))))
      have HO := Lib.hid (fun h0 : chk l k no 3 ≠ 0 => openE_first (by omega) HP.out h0)
      have HS := Lib.hid (fun h0 : chk l k no 3 = 0 => HP.out.succ h0)
      generalize chk l k no 3 = x at *
      by_cases hx : x = 0
      · subst hx
        have HS2 := Lib.hid (HS.out rfl)
        clear HS HO
        go_wp2_with (go_at_call 37; (with_reducible refine (CH.out).mono ?_); rintro e w2 ⟨rfl, hC2⟩; have HC2 := Lib.hid (HC.out.later hC2.bel); have HR2 := Lib.hid (HR.out.below hC2.bel); clear hC2)
        go_roundw
        case rel => exact ⟨4, by omega, rfl, HC2, HR2, HS2⟩
        case measure => simp [intOf]
      · have q : (x != 0) = true := by simpa using hx
        have E : Hid (openE l k no = x) := HO.out hx
        clear hx HO HS
        go_wp2_with (go_at_call 37; (with_reducible refine (CH.out).mono ?_); rintro e w2 ⟨rfl, hC2⟩; have HC2 := Lib.hid (HC.out.later hC2.bel); have HR2 := Lib.hid (HR.out.below hC2.bel); clear hC2)
        go_ret2
        have e0 : openB l k no = [] := by rw [openB, if_neg]; rw [E.out]; intro h; simp [h] at q
        exact ⟨none, 0, 0, by rw [E.out]; rfl, by rw [e0]; exact Bytes8.nil _, HC2.out.bel⟩
    · have hc := (HR.out.at_ (k := 4) rfl)
      rw [Addr.add_lit] at hc
      have CH := Lib.hid (chk5_any HC.out.self (chk_len (HP.out 1 (by omega))))
      have HO := Lib.hid (fun h0 : chk l k no 4 ≠ 0 => openE_first (by omega) HP.out h0)
      have HS := Lib.hid (fun h0 : chk l k no 4 = 0 => HP.out.succ h0)
      generalize chk l k no 4 = x at *
      by_cases hx : x = 0
      · subst hx
        have HS2 := Lib.hid (HS.out rfl)
        clear HS HO
        go_wp2_with (go_at_call 38; (with_reducible refine (CH.out).mono ?_); rintro e w2 ⟨rfl, hC2⟩; have HC2 := Lib.hid (HC.out.later hC2.bel); have HR2 := Lib.hid (HR.out.below hC2.bel); clear hC2)
        go_roundw
        case rel => exact ⟨5, by omega, rfl, HC2, HR2, HS2⟩
        case measure => simp [intOf]
      · have q : (x != 0) = true := by simpa using hx
        have E : Hid (openE l k no = x) := HO.out hx
        clear hx HO HS
        go_wp2_with (go_at_call 38; (with_reducible refine (CH.out).mono ?_); rintro e w2 ⟨rfl, hC2⟩; have HC2 := Lib.hid (HC.out.later hC2.bel); have HR2 := Lib.hid (HR.out.below hC2.bel); clear hC2)
        go_ret2
        have e0 : openB l k no = [] := by rw [openB, if_neg]; rw [E.out]; intro h; simp [h] at q
        exact ⟨none, 0, 0, by rw [E.out]; rfl, by rw [e0]; exact Bytes8.nil _, HC2.out.bel⟩
    · have hc := (HR.out.at_ (k := 5) rfl)
      rw [Addr.add_lit] at hc
      have CH := Lib.hid (chk6_any HC.out.self (chk_len (HP.out 1 (by omega))))
      have HO := Lib.hid (fun h0 : chk l k no 5 ≠ 0 => openE_first (by omega) HP.out h0)
      have HS := Lib.hid (fun h0 : chk l k no 5 = 0 => HP.out.succ h0)
      generalize chk l k no 5 = x at *
      by_cases hx : x = 0
      · subst hx
        have HS2 := Lib.hid (HS.out rfl)
        clear HS HO
        go_wp2_with (go_at_call 39; (with_reducible refine (CH.out).mono ?_); rintro e w2 ⟨rfl, hC2⟩; have HC2 := Lib.hid (HC.out.later hC2.bel); have HR2 := Lib.hid (HR.out.below hC2.bel); clear hC2)
        go_roundw
        case rel => exact ⟨6, by omega, rfl, HC2, HR2, HS2⟩
        case measure => simp [intOf]
      · have q : (x != 0) = true := by simpa using hx
        have E : Hid (openE l k no = x) := HO.out hx
        clear hx HO HS
        go_wp2_with (go_at_call 39; (with_reducible refine (CH.out).mono ?_); rintro e w2 ⟨rfl, hC2⟩; have HC2 := Lib.hid (HC.out.later hC2.bel); have HR2 := Lib.hid (HR.out.below hC2.bel); clear hC2)
        go_ret2
        have e0 : openB l k no = [] := by rw [openB, if_neg]; rw [E.out]; intro h; simp [h] at q
        exact ⟨none, 0, 0, by rw [E.out]; rfl, by rw [e0]; exact Bytes8.nil _, HC2.out.bel⟩
    · have hl := chk_len (HP.out 1 (by omega))
      have E : Hid (openE l k no = 0) := openE_all HP.out
      obtain rfl : n = 256 := by have := HC.out.B.len; omega
      have hm := HC.out.B.most
      have hcp := HC.out.B.cap
      obtain ⟨b, off, rfl, hbl, hcell⟩ := HC.out.B.row.lit (by rw [u8s_length]; omega)
      have hrow : Row wr (some ⟨b, off + 8, none⟩) (u8s ((l.drop 8).take 244)) := by
        have := (HC.out.B.row.drop 8).take 244
        rw [u8s_drop, u8s_take] at this
        simpa [Addr.add_lit] using this
      have HRow := Lib.hid hrow
      have HL : Hid ((u8s ((l.drop 8).take 244)).length = 244) := by rw [Hid, u8s_length, List.length_take, List.length_drop]; omega
      clear hrow hcell hl HR HP
      go_wp2_with (first
        | (at_make; refine wpList_make_full wr rfl (.const (.int .i64 244)) (.const (.int .i64 244)) _ rfl wr.heap.size 5 i0 _ 1 Try.underlying22 hi0 hz0 hz1 .i64 .i64 _ _ 244 rfl rfl rfl rfl (by rw [hz2]; omega) (by simp only [maxLen]; omega) (Nat.le_refl _) ?_; intro w1 hown1 hg1; have hb1 := below_of_grown hg1 (by simp); have HO1 := Lib.hid hown1; clear hown1)
        | (refine wpList_copy_splice rfl (.tmp 28) (.tmp 30) _ _ rfl 5 Try.underlying22 size_u8 _ _ _ _ _ _ rfl rfl wr.heap.size 0 _ 5 (ownsRow_whole HO1.out) (u8s ((l.drop 8).take 244)) (by rw [HL.out]; rfl) (fun hp => ⟨rfl, (HRow.out.below hb1).src hp⟩) (by have := HO1.out.1; rw [HL.out]; omega) (u8s_one _) wr.heap.size wr hb1 (Nat.le_refl _) ?_; intro w3 HG3 hb3))
      go_ret2
      have e0 : openB l k no = (l.drop 8).take 244 := by rw [openB, if_pos E.out]
      have hL := HL.out
      rw [u8s_length] at hL
      refine ⟨some ⟨wr.heap.size, 0, none⟩, 244, 244, by rw [E.out]; rfl, ?_, HC.out.bel.trans (hb3.mono HC.out.bel.size)⟩
      rw [e0]
      refine ⟨hL, Nat.le_refl _, by omega, ?_⟩
      have h3 := HG3.out
      rw [splice_all _ _ (by have := HO1.out.1; rw [HL.out]; omega)] at h3
      exact Row.of_block h3

end Go.Proofs.Ytldgdgkojlohfaa
