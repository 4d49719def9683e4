/-
  Layer 10: the reference's Put.
-/
import Derived.Test.YtolapeocdaknjaaSlotA
import Derived.Test.YtolapeocdaknjaaValQ
import Derived.Test.YtolapeocdaknjaaMemJ
import Derived.Test.YtolapeocdaknjaaCodeE
import Derived.Laws.Concat
namespace Go.Proofs.Ytolapeocdaknjaa
open Go.RowKit
set_option linter.unusedVariables false
set_option linter.unusedSimpArgs false

theorem sl_cat (x y : List UInt8) : (⟨x.toArray⟩ : ByteArray) ++ (⟨y.toArray⟩ : ByteArray) = ⟨(x ++ y).toArray⟩ := by
  apply ByteArray.ext
  rw [ByteArray.data_append]
  simp

/-- the text as it grows -/
def rowS (l : List Slt) (k : Nat) : List UInt8 := encN 4 l.length ++ ((l.take k).map sltE).flatten
theorem rowS_length (l : List Slt) {k : Nat} (hk : k ≤ l.length) : (rowS l k).length = 4 + 16 * k := by
  rw [rowS, List.length_append, encN_length, flatS_len, List.length_take]
  omega
theorem rowS_zero (l : List Slt) : rowS l 0 = encN 4 l.length := by simp [rowS]
theorem rowS_step (l : List Slt) {k : Nat} (hk : k < l.length) : rowS l k ++ sltE l[k] = rowS l (k + 1) := by
  rw [rowS, rowS, List.take_succ_eq_append_getElem hk, List.map_append, List.flatten_append, List.map_singleton]
  simp only [List.flatten_cons, List.flatten_nil, List.append_nil, List.append_assoc]
theorem rowS_all (l : List Slt) : rowS l l.length ++ List.replicate (240 - 16 * l.length) 0 = encS10 l := by
  rw [rowS, List.take_length, encS10, List.append_assoc]

/-- what a Put answers -/
def PutP10 (l : List Slt) (w : World) (e : Ending) (w' : World) : Prop := ∃ A' m c', e = .returned (.tuple #[.slice A' m c', .int .i64 (putSE10 l)]) ∧ Bytes8 w' A' m c' (putSB10 l) ∧ Below w.heap.size w w'
theorem PutP10.bad {l : List Slt} {w w' : World} (h : okS10 l = false) (hb : Below w.heap.size w w') : PutP10 l w (.returned (.tuple #[.slice none 0 0, .int .i64 1])) w' :=
  ⟨none, 0, 0, by simp [putSE10, h], by simpa [putSB10, h] using Bytes8.nil w', hb⟩
theorem PutP10.good {l : List Slt} {w w' : World} {A : Option Addr} {m c : Nat} (h : okS10 l = true) (hB : Bytes8 w' A m c (encS10 l)) (hb : Below w.heap.size w w') : PutP10 l w (.returned (.tuple #[.slice A m c, .int .i64 0])) w' :=
  ⟨A, m, c, by simp [putSE10, h], by simpa [putSB10, h] using hB, hb⟩
/-- the program's Put, in these words -/
theorem SlPut.put {l : List Slt} {w w' : World} {e : Ending} (h : SlPut l w e w') : PutP10 l w e w' := by
  obtain ⟨h1, h2, h3⟩ := h
  cases hr : okS10 l with
  | true =>
    obtain ⟨g, rfl, hO⟩ := h1 hr
    exact PutP10.good hr (hO.bytes (n := 244) (encS10_length (okS10_iff.1 hr).1) (by omega)) h3
  | false =>
    obtain rfl := h2 hr
    exact PutP10.bad hr h3

set_option maxHeartbeats 400000 in
theorem refSlPut_long (A : Option Addr) (n c : Nat) (l : List Slt) (w : World) (h : Trs w A n c l) (hn : 15 < n) :
    Calls Try.prog 8 #[.slice A n c] w (PutP10 l w) := by
  have hle : n ≤ 9223372036854775807 := Nat.le_trans h.cap h.most
  have E := Lib.hid (PutP10.bad (okS10_long (l := l) (by rw [h.len]; exact hn)) (Below.refl w.heap.size w))
  clear h
  go_enter Try.func8, Try.ntmps8
  go_wp2
  go_ret2
  exact E.out

set_option maxRecDepth 100000 in
set_option maxHeartbeats 1600000 in
theorem refSlPut_short (A : Option Addr) (n c : Nat) (l : List Slt) (w : World) (h : Trs w A n c l) (hn : n ≤ 15) :
    Calls Try.prog 8 #[.slice A n c] w (PutP10 l w) := by
  have hl := h.len
  obtain ⟨i0, hi0, hz0, hz1, hz2⟩ := info_parts info_u8
  have HC := Lib.hid (fun (k : Nat) (hk : k < n) (hkl : k < l.length) => trs_at h hk hkl)
  have HL := Lib.hid hl
  have h15 : Hid (l.length ≤ 15) := (by omega : l.length ≤ 15)
  have BY : Hid (∀ W : World, Calls Try.prog 14 #[.int .i64 (n : Int), .int .i64 4] W fun e w' => ∃ A' c', e = .returned (.slice A' 4 c') ∧ (convert 24 9 (.slice A' 4 c')).run Try.prog w' = .ok (.string ⟨(rowS l 0).toArray⟩) w' ∧ Below W.heap.size W w') := fun W =>
    (Bytes_any n 4 W (by omega) (by omega)).mono fun e w' ⟨v', h1, h2, h3⟩ => by
      obtain ⟨A', c', rfl, hB⟩ := Bytes8.of_own h2
      refine ⟨A', c', h1, ?_, h3⟩
      rw [rowS_zero, hl]
      exact run_str hB
  clear h hl
  obtain ⟨L0, hL0⟩ : ∃ L0, L0 = rowS l 0 := ⟨_, rfl⟩
  rw [← hL0] at BY
  have HL0 := Lib.hid hL0
  clear hL0
  go_enter Try.func8, Try.ntmps8
  go_wp2_with (go_at_call 14; (with_reducible refine (BY.out _).mono ?_); rintro e w1 ⟨A1, c1, rfl, cv1, hb1⟩)
  have HB1 := Lib.hid hb1
  clear hb1 cv1 BY
  go_loopw [4, 5] (fun v i wr => ∃ (k : Nat) (L : List UInt8), k ≤ n ∧ i = .int .i64 k ∧ v = .string ⟨L.toArray⟩ ∧ Hid (L = rowS l k) ∧ Hid (∀ q (hq : q < l.length), q < k → sltOk l[q] = true) ∧ Hid (Below w.heap.size w wr)) (fun _ i _ => n - (intOf i).toNat)
  case atStart => exact ⟨0, L0, by omega, rfl, rfl, HL0, fun q _ hq => by omega, HB1⟩
  case round =>
    clear HB1 HL0
    obtain ⟨k, L, hk, rfl, rfl, hLe, hT, hbel⟩ := hrel
    by_cases hlt : k < n
    · have hkl : k < l.length := by have := HL.out; omega
      obtain ⟨b, off, x0, x1, x2, rfl, hb, hx, hd0, hd1, hd2⟩ := HC.out k hlt hkl
      have hc0 := (hbel.out.cell (p := ⟨b, off + k * 3, none⟩) hb).trans hd0
      have hc1 := (hbel.out.cell (p := ⟨b, off + k * 3 + 1, none⟩) hb).trans hd1
      have hc2 := (hbel.out.cell (p := ⟨b, off + k * 3 + 2, none⟩) hb).trans hd2
      have HCW : Hid (∀ W, Below wr.heap.size wr W → W.cell? ⟨b, off + k * 3, none⟩ = some (.int .i64 x0) ∧ W.cell? ⟨b, off + k * 3 + 1, none⟩ = some (.int .i64 x1) ∧ W.cell? ⟨b, off + k * 3 + 2, none⟩ = some (.int .i64 x2)) := fun W hW => ⟨(hW.cell (p := ⟨b, off + k * 3, none⟩) (cell_lt hc0)).trans hc0, (hW.cell (p := ⟨b, off + k * 3 + 1, none⟩) (cell_lt hc1)).trans hc1, (hW.cell (p := ⟨b, off + k * 3 + 2, none⟩) (cell_lt hc2)).trans hc2⟩
      have HLn := rowS_length l (k := k) (by omega)
      have HSt := rowS_step l hkl
      rw [hx] at HSt
      obtain ⟨y, hy⟩ : ∃ y : ByteArray, y = ⟨(slotB x0 x1 x2).toArray⟩ := ⟨_, rfl⟩
      have SL : Hid (∀ W, Calls Try.prog 15 #[.agg #[.int .i64 x0, .int .i64 x1, .int .i64 x2]] W fun e w' => e = .returned (.string y) ∧ Below W.heap.size W w') := fun W => by
        rw [hy]
        exact refSlot_any8 W x0 x1 x2
      have NO : Hid (sltOk (x0, x1, x2) = false → okS10 l = false) := fun e => okS10_no hkl (by rw [hx]; exact e)
      have YES : Hid (sltOk (x0, x1, x2) = true → ∀ q (hq : q < l.length), q < k + 1 → sltOk l[q] = true) := fun e q hq hqk => by
        by_cases hqe : q = k
        · subst hqe; rw [hx]; exact e
        · exact hT.out q hq (by omega)
      clear hx hd0 hd1 hd2
      cases ho : sltOk (x0, x1, x2) with
      | false =>
        have hye := txt_no hy ho
        have HN := Lib.hid (NO.out ho)
        clear ho hy HLn HSt
        go_wp2_with (go_at_call 15; (with_reducible refine (SL.out _).mono ?_); rintro e w3 ⟨rfl, hb3⟩; have HB3 := Lib.hid (hbel.out.trans (hb3.mono hbel.out.size)); clear hb3)
        go_ret2
        exact PutP10.bad HN.out HB3.out
      | true =>
        obtain ⟨hye, hys, hyd⟩ := txt_ok hy ho
        have HY := Lib.hid (YES.out ho)
        obtain ⟨L2, hL2⟩ : ∃ L2, L2 = rowS l (k + 1) := ⟨_, rfl⟩
        have EQ : (⟨L.toArray⟩ : ByteArray) ++ y = ⟨L2.toArray⟩ := by rw [hy, slotB_ok ho, sl_cat, hLe.out, HSt, hL2]
        have hLb : L.length ≤ 244 := by rw [hLe.out, HLn]; omega
        have HL2 := Lib.hid hL2
        clear ho hy hyd HLn HSt hL2
        go_wp2_with (first
          | (go_at_call 15; (with_reducible refine (SL.out w3).mono ?_); rintro e w4 ⟨rfl, hb4⟩; have HB4 := Lib.hid (HB3.out.trans (hb4.mono HB3.out.size)); clear hb4)
          | (go_at_call 15; (with_reducible refine (SL.out wr).mono ?_); rintro e w3 ⟨rfl, hb3⟩; have HB3 := Lib.hid (hbel.out.trans (hb3.mono hbel.out.size)); obtain ⟨d0, d1, d2⟩ := HCW.out _ hb3; clear hb3))
        go_roundw
        case rel => exact ⟨k + 1, L2, by omega, by go_num, rfl, HL2, HY.out, HB4⟩
        case measure => simp [intOf]; omega
    · obtain rfl : k = n := by omega
      have HOK : Hid (okS10 l = true) := okS10_iff.2 ⟨h15.out, fun x hx => by
        obtain ⟨q, hq, rfl⟩ := List.mem_iff_getElem.1 hx
        exact hT.out q hq (by have := HL.out; omega)⟩
      have hLn : L.length = 4 + 16 * k := by rw [hLe.out, rowS_length l (by have := HL.out; omega)]
      have hLa := rowS_all l
      rw [HL.out, ← hLe.out] at hLa
      obtain ⟨r, hr⟩ : ∃ r, r = 240 - 16 * k := ⟨_, rfl⟩
      rw [← hr] at hLa
      have hr2 : (244 : Int) - (L.length : Int) = (r : Int) := by omega
      have hL244 : L.length ≤ 244 := by omega
      have hr240 : r ≤ 240 := by omega
      obtain ⟨Z, hZ⟩ : ∃ Z : List UInt8, Z = List.replicate r 0 := ⟨_, rfl⟩
      have hZl : Z.length = r := by rw [hZ, List.length_replicate]
      obtain ⟨E, hE⟩ : ∃ E, E = encS10 l := ⟨_, rfl⟩
      have hEl : E.length = 244 := by rw [hE]; exact encS10_length h15.out
      have EQ : (⟨L.toArray⟩ : ByteArray) ++ (⟨Z.toArray⟩ : ByteArray) = ⟨E.toArray⟩ := by rw [sl_cat, hZ, hLa, hE]
      have hZb : Z.length ≤ 240 := by omega
      have HE := Lib.hid hE
      have HEL := Lib.hid hEl
      have HZ := Lib.hid hZ
      have HZL := Lib.hid hZl
      have HR2 := Lib.hid hr2
      clear hE hEl hZ hZl hLa hr hT hLe hLn
      go_wp2_with (at_make; refine wpList_make_full wr rfl (.tmp 35) (.tmp 35) _ rfl wr.heap.size 5 i0 _ 1 Try.underlying24 hi0 hz0 hz1 .i64 .i64 _ _ r rfl rfl rfl rfl (by rw [hz2]; omega) (by simp only [maxLen]; omega) (Nat.le_refl _) ?_; intro w5 hown5 hg5; have hb5 := below_of_grown hg5 (by simp); have hO5 := own_zeros hown5 (Nat.le_refl _); rw [← HZ.out] at hO5; have cv5 := run_str (hO5.bytes (n := r) HZL.out (by omega)); obtain ⟨c6, w6, hcv6, hB6, hb6⟩ := conv_bytes E w5 (by rw [HEL.out]; omega); rw [HEL.out] at hcv6 hB6; have HB6 := Lib.hid hB6; have HBX := Lib.hid (hbel.out.trans ((hb5.trans (hb6.mono hb5.size)).mono hbel.out.size)); clear hown5 hO5 hB6)
      go_ret2
      exact PutP10.good HOK.out (by rw [← HE.out]; exact HB6.out) HBX.out

theorem refSlPut_any (A : Option Addr) (n c : Nat) (l : List Slt) (w : World) (h : Trs w A n c l) :
    Calls Try.prog 8 #[.slice A n c] w (PutP10 l w) := by
  by_cases hn : n ≤ 15
  · exact refSlPut_short A n c l w h hn
  · exact refSlPut_long A n c l w h (by omega)

end Go.Proofs.Ytolapeocdaknjaa
