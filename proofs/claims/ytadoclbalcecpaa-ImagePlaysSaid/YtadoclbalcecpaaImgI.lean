/-
  The reference's Read, Write.
-/
import Derived.Test.YtadoclbalcecpaaImgH
namespace Go.Proofs.Ytadoclbalcecpaa
open Go.RowKit
set_option linter.unusedVariables false
set_option linter.unusedSimpArgs false

/-- bytes of a string, in a new row -/
theorem conv_back (l : List UInt8) (w : World) (h : l.length ≤ 9223372036854775807) : ∃ c w', (convert 9 22 (.string ⟨l.toArray⟩)).run Try.prog w = .ok (.slice (some ⟨w.heap.size, 0, none⟩) l.length c) w' ∧ Bytes8 w' (some ⟨w.heap.size, 0, none⟩) l.length c l ∧ Below w.heap.size w w' := by
  have hs : (ByteArray.mk l.toArray).size = l.length := by simp [ByteArray.size]
  have h1 := grownCap_ge w l.length 0 5
  have h2 := grownCap_le_maxLen w l.length 0 5 (by simpa [maxLen] using h)
  have := run_bytes_of_string (P := Try.prog) w 9 22 5 ⟨l.toArray⟩ Try.underlying9 Try.underlying22 Try.underlying5
  rw [hs] at this
  refine ⟨_, _, this, ⟨rfl, h1, by simpa [maxLen] using h2, ?_⟩, ((Below.refl _ _).drew).alloc (by simp) _⟩
  intro k v hk
  have hk2 : k < l.length := by
    have := (List.getElem?_eq_some_iff.1 hk).1
    rwa [u8s_length] at this
  refine ⟨_, rfl, ?_⟩
  rw [Addr.add_lit, Nat.zero_add, cell_of_row _ w.heap.size k _ _ _ (heap_alloc_new w.drew _)]
  rw [u8s_at l k hk2] at hk
  rw [← hk]
  simp [bytesRow, Array.getElem?_append, hk2]

set_option maxHeartbeats 800000 in
theorem refRead_bad {B p : Nat} {v : Value} {L : List (List UInt8)} (k : Int) (w : World) (h : RImg w B p v L) (hk : k < 0 ∨ (L.length : Int) ≤ k) :
    Calls Try.prog 15 #[.pointer (some ⟨p, 0, none⟩), .int .i64 k] w fun e w' => e = .returned (.tuple #[.slice none 0 0, .int .i64 3]) ∧ w = w' := by
  obtain ⟨A, c, rfl, hcap, hmost, hcell, hrow⟩ := h.form
  clear h hrow
  generalize L.length = n at *
  by_cases h0 : k < 0
  · clear hk
    go_enter Try.func15, Try.ntmps15
    go_wp2
    go_ret2
    exact ⟨rfl, rfl⟩
  · have h1 : (n : Int) ≤ k := by omega
    clear hk
    go_enter Try.func15, Try.ntmps15
    go_wp2
    go_ret2
    exact ⟨rfl, rfl⟩

set_option maxHeartbeats 800000 in
theorem refRead_good {B p : Nat} {v : Value} {L : List (List UInt8)} (k : Nat) (w : World) (h : RImg w B p v L) (hk : k < L.length) (hl : L[k].length ≤ 9223372036854775807) :
    Calls Try.prog 15 #[.pointer (some ⟨p, 0, none⟩), .int .i64 (k : Int)] w fun e w' => ∃ A c, e = .returned (.tuple #[.slice A L[k].length c, .int .i64 0]) ∧ Bytes8 w' A L[k].length c L[k] ∧ Below w.heap.size w w' := by
  obtain ⟨A, c, rfl, hcap, hmost, hcell, hrow⟩ := h.form
  obtain ⟨b, off, rfl, hb, hcs⟩ := hrow.lit (by rw [txts_length]; omega)
  have hc1 : w.cell? ⟨b, off + k, none⟩ = some (.string ⟨L[k].toArray⟩) := hcs k _ (txts_at L k hk)
  obtain ⟨c', w', hrun, hB, hbel⟩ := conv_back L[k] w hl
  have HB := Lib.hid hB
  have HK : k < L.length := hk
  clear h hrow hcs hB hl
  generalize L[k] = t at *
  generalize L.length = n at *
  go_enter Try.func15, Try.ntmps15
  go_wp2
  go_ret2
  exact ⟨_, c', rfl, HB.out, hbel⟩

set_option maxHeartbeats 800000 in
theorem refWrite_bad {B p : Nat} {v : Value} {L : List (List UInt8)} (k : Int) (A2 : Option Addr) (m c2 : Nat) (w : World) (h : RImg w B p v L) (hk : k < 0 ∨ (L.length : Int) ≤ k) :
    Calls Try.prog 13 #[.pointer (some ⟨p, 0, none⟩), .int .i64 k, .slice A2 m c2] w fun e w' => e = .returned (.int .i64 3) ∧ w = w' := by
  obtain ⟨A, c, rfl, hcap, hmost, hcell, hrow⟩ := h.form
  clear h hrow
  generalize L.length = n at *
  by_cases h0 : k < 0
  · clear hk
    go_enter Try.func13, Try.ntmps13
    go_wp2
    go_ret
    exact ⟨rfl, rfl⟩
  · have h1 : (n : Int) ≤ k := by omega
    clear hk
    go_enter Try.func13, Try.ntmps13
    go_wp2
    go_ret
    exact ⟨rfl, rfl⟩

set_option maxHeartbeats 800000 in
theorem refWrite_size {B p : Nat} {v : Value} {L : List (List UInt8)} (k : Nat) (A2 : Option Addr) (m c2 : Nat) (w : World) (h : RImg w B p v L) (hk : k < L.length) (hm : m ≠ 256) :
    Calls Try.prog 13 #[.pointer (some ⟨p, 0, none⟩), .int .i64 (k : Int), .slice A2 m c2] w fun e w' => e = .returned (.int .i64 1) ∧ w = w' := by
  obtain ⟨A, c, rfl, hcap, hmost, hcell, hrow⟩ := h.form
  have ht : ((m : Int) != 256) = true := by simp; omega
  clear h hrow hm
  generalize L.length = n at *
  go_enter Try.func13, Try.ntmps13
  go_wp2
  go_ret
  exact ⟨rfl, rfl⟩

theorem RImg.lit {w : World} {B p : Nat} {v : Value} {L : List (List UInt8)} (h : RImg w B p v L) (hp : 0 < L.length) :
    ∃ g cap cur, v = .slice (some ⟨g, 0, none⟩) L.length cap ∧ p + 1 ≤ g ∧ w.heap[g]? = some (.cells cur 9 (0, 0)) ∧ L.length ≤ cap ∧ cap ≤ maxLen ∧ cur.size = cap ∧ cur.toList.take L.length = txts L := by
  rcases h.own.2 with ⟨_, h0⟩ | ⟨g, cap, cur, hv, hg, hh, h1, h2, h3, h4⟩
  · omega
  · exact ⟨g, cap, cur, hv, hg, hh, h1, h2, by simpa using h3, by simpa using h4⟩

theorem RImg.set {w : World} {B p g cap k : Nat} {L : List (List UInt8)} {cur : Array Value} (l : List UInt8) (h : RImg w B p (.slice (some ⟨g, 0, none⟩) L.length cap) L) (hg : p + 1 ≤ g) (hh : w.heap[g]? = some (.cells cur 9 (0, 0)))
    (h1 : L.length ≤ cap) (h2 : cap ≤ maxLen) (h3 : cur.size = cap) (h4 : cur.toList.take L.length = txts L) (hk : k < L.length) : RImg (w.setCell ⟨g, k, none⟩ (.string ⟨l.toArray⟩)) B p (.slice (some ⟨g, 0, none⟩) L.length cap) (L.set k l) := by
  refine ⟨h.bp, ?_, ?_, .inr ⟨g, cap, cur.setIfInBounds k (.string ⟨l.toArray⟩), ?_, hg, heap_setCell_same w g k cur _ _ hh, ?_, h2, ?_, ?_⟩⟩
  · rw [heap_setCell_other w ⟨g, k, none⟩ p _ (by simp; omega)]
    exact h.hp
  · simp [txts_length]
  · rw [List.length_set]
  · rw [List.length_set]; exact h1
  · simpa using h3
  · rw [List.length_set, Nat.mul_one, Array.toList_setIfInBounds, List.take_set, h4]
    simp [txts, txt, List.map_set]

/-- a list of strings lies behind the pointer; one of them is written -/
theorem refWrite_put {B p : Nat} {v : Value} {L : List (List UInt8)} (k : Nat) (A2 : Option Addr) (c2 : Nat) (l : List UInt8) (w : World) (h : RImg w B p v L) (hk : k < L.length) (hl : Bytes8 w A2 256 c2 l) :
    Calls Try.prog 13 #[.pointer (some ⟨p, 0, none⟩), .int .i64 (k : Int), .slice A2 256 c2] w fun e w' => e = .returned (.int .i64 0) ∧ RImg w' B p v (L.set k l) ∧ Below (p + 1) w w' := by
  obtain ⟨g, cap, cur, rfl, hg, hh, h1, h2, h3, h4⟩ := h.lit (by omega)
  have hcell := h.cell
  have cv := run_text hl
  have cvd : (convert 22 9 (.slice A2 256 c2)).run Try.prog w.drew = .ok (.string ⟨l.toArray⟩) w.drew := run_text (hl.below ((Below.refl _ _).drew))
  have hc1 : w.cell? ⟨g, k, none⟩ = some (.string ⟨L[k].toArray⟩) := by
    rw [cell_of_row w g k cur _ _ hh]
    have := txts_at L k hk
    rw [← h4, List.getElem?_take_of_lt hk] at this
    simpa [txt] using this
  have hfz : w.frozen? ⟨g, k, none⟩ = false := frozen_of_row w g k _ _ hh
  have HX : Hid (RImg (w.setCell ⟨g, k, none⟩ (.string ⟨l.toArray⟩)) B p (.slice (some ⟨g, 0, none⟩) L.length cap) (L.set k l)) := h.set l hg hh h1 h2 h3 h4 hk
  have HBl : Hid (Below (p + 1) w (w.setCell ⟨g, k, none⟩ (.string ⟨l.toArray⟩))) := (Below.refl _ _).setCell (by simpa using hg) _
  have hkI : (k : Int) < (L.length : Int) := by omega
  have hc63 : cap ≤ 9223372036854775807 := by simpa [maxLen] using h2
  clear h hh h2 h3 h4 hl
  generalize L[k] = t at *
  generalize L.length = n at *
  go_enter Try.func13, Try.ntmps13
  go_wp2
  go_region
  all_goals go_wp2
  all_goals go_ret
  all_goals exact ⟨rfl, HX.out.later ((Below.refl _ _).drew), HBl.out.drew⟩

end Go.Proofs.Ytadoclbalcecpaa
