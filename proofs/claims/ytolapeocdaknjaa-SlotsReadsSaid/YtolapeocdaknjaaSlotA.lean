/-
  Layer 10: Put.
-/
import Derived.Test.YtolapeocdaknjaaSlotMath
import Derived.Test.YtolapeocdaknjaaValD
import Derived.Test.YtolapeocdaknjaaMemH
import Derived.Test.YtolapeocdaknjaaMemL
import Derived.Test.YtolapeocdaknjaaOpenH
import Derived.Test.YtolapeocdaknjaaCodeF
namespace Go.Proofs.Ytolapeocdaknjaa
open Go.RowKit
set_option linter.unusedVariables false
set_option linter.unusedSimpArgs false

/-- the bytes after k slots have been copied -/
def slotsP (l : List Slt) (k : Nat) : List UInt8 := encN 4 l.length ++ (((l.take k).map sltE).flatten ++ List.replicate (240 - 16 * k) 0)
theorem slotsP_length (l : List Slt) {k : Nat} (hk : k ≤ l.length) (h : l.length ≤ 15) : (slotsP l k).length = 244 := by
  rw [slotsP, List.length_append, List.length_append, encN_length, flatS_len, List.length_replicate, List.length_take]
  omega
theorem slotsP_all (l : List Slt) : slotsP l l.length = encS10 l := by rw [slotsP, List.take_length]; rfl
theorem slotsP_zero (l : List Slt) : slotsP l 0 = encN 4 l.length ++ List.replicate 240 0 := by simp [slotsP]
theorem slotsP_step (l : List Slt) {k : Nat} (hk : k < l.length) (h : l.length ≤ 15) : splice (u8s (slotsP l k)) (4 + 16 * k) (u8s (sltE l[k])) = u8s (slotsP l (k + 1)) := by
  have hm : (((l.take k).map sltE).flatten).length = 16 * k := by rw [flatS_len, List.length_take]; omega
  have hA : (encN 4 l.length ++ ((l.take k).map sltE).flatten).length = 4 + 16 * k := by rw [List.length_append, encN_length, hm]
  have e2 : slotsP l k = (encN 4 l.length ++ ((l.take k).map sltE).flatten) ++ (List.replicate 16 0 ++ List.replicate (240 - 16 * (k + 1)) 0) := by
    rw [slotsP, show 240 - 16 * k = 16 + (240 - 16 * (k + 1)) by omega, ← List.replicate_append_replicate, List.append_assoc]
  have e3 : slotsP l (k + 1) = (encN 4 l.length ++ ((l.take k).map sltE).flatten) ++ (sltE l[k] ++ List.replicate (240 - 16 * (k + 1)) 0) := by
    rw [slotsP, List.take_succ_eq_append_getElem hk, List.map_append, List.flatten_append, List.map_singleton]
    simp only [List.flatten_cons, List.flatten_nil, List.append_nil, List.append_assoc]
  rw [e2, e3]
  generalize encN 4 l.length ++ ((l.take k).map sltE).flatten = p at *
  have hd : (p ++ (List.replicate 16 (0 : UInt8) ++ List.replicate (240 - 16 * (k + 1)) 0)).drop (4 + 16 * k + 16) = List.replicate (240 - 16 * (k + 1)) 0 := by
    rw [drop_past hA, List.drop_left' (List.length_replicate)]
  simp only [splice, u8s_length, sltE_len, u8s_take, u8s_drop]
  rw [hd, List.take_left' hA]
  simp only [u8s_append, List.append_assoc]

/-- a slot as a text -/
theorem slotB_ok {x0 x1 x2 : Int} (h : sltOk (x0, x1, x2) = true) : slotB x0 x1 x2 = sltE (x0, x1, x2) := if_pos h
theorem slotB_no {x0 x1 x2 : Int} (h : sltOk (x0, x1, x2) = false) : slotB x0 x1 x2 = [] := if_neg (by
  rw [show okP (slotS.zip [x0, x1, x2]) = false from h]
  decide)
theorem txt_ok {x0 x1 x2 : Int} {y : ByteArray} (hy : y = ⟨(slotB x0 x1 x2).toArray⟩) (h : sltOk (x0, x1, x2) = true) : y.toList.isEmpty = false ∧ y.size = 16 ∧ y.data.toList = sltE (x0, x1, x2) := by
  have hl := sltE_len (x0, x1, x2)
  rw [slotB_ok h] at hy
  subst hy
  refine ⟨?_, by simp [ByteArray.size, hl], by simp⟩
  rw [ByteArray.toList_mk, Bool.eq_false_iff, ne_eq, List.isEmpty_iff]
  intro e
  rw [e] at hl
  cases hl
theorem txt_no {x0 x1 x2 : Int} {y : ByteArray} (hy : y = ⟨(slotB x0 x1 x2).toArray⟩) (h : sltOk (x0, x1, x2) = false) : y.toList.isEmpty = true := by
  rw [slotB_no h] at hy
  subst hy
  rw [ByteArray.toList_mk]
  rfl

/-- what the program's Put answers -/
def SlPut (l : List Slt) (w : World) (e : Ending) (w' : World) : Prop :=
  (okS10 l = true → ∃ g, e = .returned (.tuple #[.slice (some ⟨g, 0, none⟩) 244 244, .int .i64 0]) ∧ Own8 w' w.heap.size g (encS10 l)) ∧ (okS10 l = false → e = .returned (.tuple #[.slice none 0 0, .int .i64 1])) ∧ Below w.heap.size w w'
theorem SlPut.bad {l : List Slt} {w w' : World} (h : okS10 l = false) (hb : Below w.heap.size w w') : SlPut l w (.returned (.tuple #[.slice none 0 0, .int .i64 1])) w' :=
  ⟨fun e => (by rw [h] at e; cases e), fun _ => rfl, hb⟩
theorem SlPut.good {l : List Slt} {w w' : World} {g : Nat} (h : okS10 l = true) (hO : Own8 w' w.heap.size g (encS10 l)) (hb : Below w.heap.size w w') : SlPut l w (.returned (.tuple #[.slice (some ⟨g, 0, none⟩) 244 244, .int .i64 0])) w' :=
  ⟨fun _ => ⟨g, rfl, hO⟩, fun e => (by rw [h] at e; cases e), hb⟩
theorem okS10_long {l : List Slt} (h : 15 < l.length) : okS10 l = false := by
  cases e : okS10 l with
  | false => rfl
  | true => have := (okS10_iff.1 e).1; omega
theorem okS10_no {l : List Slt} {k : Nat} (hk : k < l.length) (h : sltOk l[k] = false) : okS10 l = false := by
  cases e : okS10 l with
  | false => rfl
  | true => rw [(okS10_iff.1 e).2 _ (List.getElem_mem hk)] at h; cases h

def sltBd (q : Slt) : Prop := i64b q.1 ∧ i64b q.2.1 ∧ i64b q.2.2

/-- the slots' cells -/
theorem trs_at {w : World} {A : Option Addr} {n c : Nat} {l : List Slt} (h : Trs w A n c l) {k : Nat} (hk : k < n) (hkl : k < l.length) : ∃ b off x0 x1 x2, A = some ⟨b, off, none⟩ ∧ b < w.heap.size ∧ l[k] = (x0, x1, x2) ∧ w.cell? ⟨b, off + k * 3, none⟩ = some (.int .i64 x0) ∧ w.cell? ⟨b, off + k * 3 + 1, none⟩ = some (.int .i64 x1) ∧ w.cell? ⟨b, off + k * 3 + 2, none⟩ = some (.int .i64 x2) := by
  obtain ⟨b, off, rfl, hb, hc⟩ := h.lit (by omega)
  obtain ⟨h0, h1, h2⟩ := hc k hkl
  exact ⟨b, off, _, _, _, rfl, hb, rfl, h0, h1, h2⟩

set_option maxHeartbeats 400000 in
theorem SlPut_long (A : Option Addr) (n c : Nat) (l : List Slt) (w : World) (h : Trs w A n c l) (hn : 15 < n) :
    Calls Try.prog 7 #[.slice A n c] w (SlPut l w) := by
  have hle : n ≤ 9223372036854775807 := Nat.le_trans h.cap h.most
  have E := Lib.hid (SlPut.bad (okS10_long (l := l) (by rw [h.len]; exact hn)) (Below.refl w.heap.size w))
  clear h
  go_enter Try.func7, Try.ntmps7
  go_wp2
  go_ret2
  exact E.out

set_option maxRecDepth 100000 in
set_option maxHeartbeats 1600000 in
theorem SlPut_short (A : Option Addr) (n c : Nat) (l : List Slt) (w : World) (h : Trs w A n c l) (hbd : ∀ q ∈ l, sltBd q) (hn : n ≤ 15) :
    Calls Try.prog 7 #[.slice A n c] w (SlPut l w) := by
  have hl := h.len
  obtain ⟨i0, hi0, hz0, hz1, hz2⟩ := info_parts info_u8
  have HC := Lib.hid (fun (k : Nat) (hk : k < n) (hkl : k < l.length) => trs_at h hk hkl)
  have HB := Lib.hid (fun (k : Nat) (hkl : k < l.length) => hbd l[k] (List.getElem_mem hkl))
  have C : Hid (∀ w1 : World, ∀ g0, Own8 w1 w.heap.size g0 (List.replicate 244 0) → Calls Try.prog 12 #[.slice (some ⟨g0, 0, none⟩) 244 244, .int .i64 0, .int .i64 4, .int .i64 (n : Int)] w1 fun e w' => e = .returned (.tuple #[.slice (some ⟨w1.heap.size, 0, none⟩) 244 244, .int .i64 0]) ∧ Own8 w' w1.heap.size w1.heap.size (slotsP l 0) ∧ Below w1.heap.size w1 w') := fun w1 g0 hO =>
    (Put_own _ 244 244 0 4 n _ w1 (hO.bytes (n := 244) List.length_replicate (by omega)) (by omega) (by decide) (by decide) (by decide) (by omega) (by simp [fitsB]; omega)).mono fun e w' ⟨h1, h2, h3⟩ => by
      refine ⟨h1, ?_, h3⟩
      rw [slotsP_zero, hl]
      rw [List.take_zero, List.nil_append, List.drop_replicate] at h2
      exact h2
  have HL := Lib.hid hl
  have h15 : Hid (l.length ≤ 15) := (by omega : l.length ≤ 15)
  clear h hbd hl
  go_enter Try.func7, Try.ntmps7
  go_wp2_with (first
    | (at_make; refine wpList_make_full w rfl (.const (.int .i64 244)) (.const (.int .i64 244)) _ rfl w.heap.size 5 i0 _ 1 Try.underlying24 hi0 hz0 hz1 .i64 .i64 _ _ 244 rfl rfl rfl rfl (by rw [hz2]; omega) (by simp only [maxLen]; omega) (Nat.le_refl _) ?_; intro w1 hown1 hg1; have hb1 := below_of_grown hg1 (by simp); have HO1 := Lib.hid (own_zeros hown1 (Nat.le_refl _)); clear hown1)
    | (go_at_call 12; (with_reducible refine (C.out _ _ HO1.out).mono ?_); rintro e w2 ⟨rfl, hO2, hb2⟩; have hg2 := hb1.size))
  have hbel : Below w.heap.size w w2 := hb1.trans (hb2.mono hg1.size)
  have hgl : w.heap.size ≤ w1.heap.size := hg1.size
  have HO2 : Hid (Own8 w2 w.heap.size w1.heap.size (slotsP l 0)) := hO2.down hgl
  have HB2 := Lib.hid hbel
  clear hO2 hbel hb1 hb2 hg1 HO1 hg2
  generalize w1.heap.size = g at *
  clear hi0 hz0 hz1 hz2
  go_loopw [6, 25] (fun a i wr => ∃ k p : Nat, k ≤ n ∧ p ≤ 244 ∧ i = .int .i64 k ∧ a = .int .i64 p ∧ Hid (p = 4 + 16 * k) ∧ Hid (Own8 wr w.heap.size g (slotsP l k)) ∧ Hid (∀ q (hq : q < l.length), q < k → sltOk l[q] = true) ∧ Hid (Below w.heap.size w wr)) (fun _ i _ => n - (intOf i).toNat)
  case atStart => exact ⟨0, 4, by omega, by omega, rfl, rfl, rfl, HO2, fun q _ hq => by omega, HB2⟩
  case round =>
    clear HO2 HB2
    obtain ⟨k, p, hk, hp, rfl, rfl, hpk, hO, hT, hbel⟩ := hrel
    by_cases hlt : k < n
    · have hkl : k < l.length := by have := HL.out; omega
      obtain ⟨b, off, x0, x1, x2, rfl, hb, hx, hd0, hd1, hd2⟩ := HC.out k hlt hkl
      have hc0 := (hbel.out.cell (p := ⟨b, off + k * 3, none⟩) hb).trans hd0
      have hc1 := (hbel.out.cell (p := ⟨b, off + k * 3 + 1, none⟩) hb).trans hd1
      have hc2 := (hbel.out.cell (p := ⟨b, off + k * 3 + 2, none⟩) hb).trans hd2
      have hp2 : p ≤ 228 := by have := hpk.out; omega
      have hpn : ¬ 244 = p := by omega
      have HS : Hid (splice (u8s (slotsP l k)) p (u8s (sltE (x0, x1, x2))) = u8s (slotsP l (k + 1))) := by
        have := slotsP_step l hkl h15.out
        rw [hx, ← hpk.out] at this
        exact this
      have HLn := Lib.hid (slotsP_length l (k := k) (by omega) h15.out)
      obtain ⟨⟨a1, a2⟩, ⟨a3, a4⟩, a5, a6⟩ := HB.out k hkl
      rw [hx] at a1 a2 a3 a4 a5 a6
      obtain ⟨y, hy⟩ : ∃ y : ByteArray, y = ⟨(slotB x0 x1 x2).toArray⟩ := ⟨_, rfl⟩
      have SL : Hid (∀ W, Calls Try.prog 13 #[.agg #[.int .i64 x0, .int .i64 x1, .int .i64 x2]] W fun e w' => e = .returned (.string y) ∧ Below W.heap.size W w') := fun W => by
        rw [hy]
        exact Slot_any W x0 x1 x2 ⟨a1, a2⟩ ⟨a3, a4⟩ ⟨a5, a6⟩
      have NO : Hid (sltOk (x0, x1, x2) = false → okS10 l = false) := fun e => okS10_no hkl (by rw [hx]; exact e)
      have YES : Hid (sltOk (x0, x1, x2) = true → ∀ q (hq : q < l.length), q < k + 1 → sltOk l[q] = true) := fun e q hq hqk => by
        by_cases hqe : q = k
        · subst hqe; rw [hx]; exact e
        · exact hT.out q hq (by omega)
      have hba : Below wr.heap.size wr (wr.alloc (.cells #[.int .i64 x0, .int .i64 x1, .int .i64 x2] 38)) := (Below.refl _ _).alloc (Nat.le_refl _) _
      have HBA := Lib.hid (hbel.out.trans (hba.mono hbel.out.size))
      have HOA := Lib.hid (hO.out.later hba)
      clear hx hd0 hd1 hd2 a1 a2 a3 a4 a5 a6 hba
      cases ho : sltOk (x0, x1, x2) with
      | false =>
        have hye := txt_no hy ho
        have HN := Lib.hid (NO.out ho)
        clear ho hy
        go_wp2_with (go_at_call 13; (with_reducible refine (SL.out _).mono ?_); rintro e w3 ⟨rfl, hb3⟩; have HB3 := Lib.hid (HBA.out.trans (hb3.mono HBA.out.size)); clear hb3)
        go_ret2
        exact SlPut.bad HN.out HB3.out
      | true =>
        obtain ⟨hye, hys, hyd⟩ := txt_ok hy ho
        have HYD := Lib.hid hyd
        have HY := Lib.hid (YES.out ho)
        clear ho hy hyd
        go_wp2_with (first
          | (go_at_call 13; (with_reducible refine (SL.out _).mono ?_); rintro e w3 ⟨rfl, hb3⟩; have HB3 := Lib.hid (HBA.out.trans (hb3.mono HBA.out.size)); have HO3 := Lib.hid (HOA.out.later hb3); clear hb3)
          | (refine wpList_copy_str rfl (.tmp 36) (.tmp 37) _ _ rfl 5 Try.underlying24 size_u8 g p (244 - p) (244 - p) y 16 hys rfl rfl (by omega) (u8s (slotsP l k)) 5 HO3.out.blk (by rw [u8s_length, HLn.out]; omega) w.heap.size w HB3.out hgl ?_; intro w6 HG6 hb6))
        go_roundw
        case rel => exact ⟨k + 1, p + 16, by omega, by omega, by go_num, by go_num, by have := hpk.out; show _ = _; omega, ⟨hgl, by have := HG6.out; rw [HYD.out, HS.out] at this; exact this⟩, HY.out, hb6⟩
        case measure => simp [intOf]; omega
    · obtain rfl : k = n := by omega
      have HOK : Hid (okS10 l = true) := okS10_iff.2 ⟨h15.out, fun x hx => by
        obtain ⟨q, hq, rfl⟩ := List.mem_iff_getElem.1 hx
        exact hT.out q hq (by have := HL.out; omega)⟩
      have HO9 : Hid (Own8 wr w.heap.size g (encS10 l)) := by
        have := hO.out
        rw [← HL.out, slotsP_all] at this
        exact this
      clear hT hO
      go_wp2
      go_ret2
      exact SlPut.good HOK.out HO9.out hbel.out

theorem SlPut_any (A : Option Addr) (n c : Nat) (l : List Slt) (w : World) (h : Trs w A n c l) (hbd : ∀ q ∈ l, sltBd q) :
    Calls Try.prog 7 #[.slice A n c] w (SlPut l w) := by
  by_cases hn : n ≤ 15
  · exact SlPut_short A n c l w h hbd hn
  · exact SlPut_long A n c l w h (by omega)

end Go.Proofs.Ytolapeocdaknjaa
