/-
  Layer 10: decode, and the function literal that takes from the input.
-/
import Derived.Test.YtolapeocdaknjaaSlotA
import Derived.Test.YtolapeocdaknjaaMemN
import Derived.Test.YtolapeocdaknjaaValH
import Derived.Test.YtolapeocdaknjaaValR
import Derived.Test.YtolapeocdaknjaaCodeC
import Derived.Test.YtolapeocdaknjaaCodeG
namespace Go.Proofs.Ytolapeocdaknjaa
open Go.RowKit
set_option linter.unusedVariables false
set_option linter.unusedSimpArgs false

theorem info_slot : (Try.prog.info? 38).map (fun i => (i.zero, i.size, i.bytes)) = some (some (.agg #[.int .i64 0, .int .i64 0, .int .i64 0]), 3, 24) := by kernel_rfl
theorem info_text : (Try.prog.info? 9).map (fun i => (i.zero, i.size, i.bytes)) = some (some (.string ByteArray.empty), 1, 16) := by kernel_rfl

/-- the bytes from s on -/
theorem Bytes8.rest {w : World} {b off m c : Nat} {l : List UInt8} (h : Bytes8 w (some ⟨b, off, none⟩) m c l) {s : Nat} (hs : s ≤ m) : Bytes8 w (if c = s then some ⟨b, off, none⟩ else some ⟨b, off + s, none⟩) (m - s) (c - s) (l.drop s) := by
  have hc := h.cap
  have hm := h.most
  refine ⟨by rw [List.length_drop, h.len], by omega, by omega, ?_⟩
  have := h.row.cut_lit (m := s) (c := c) (by rw [u8s_length, h.len]; exact hc)
  rwa [u8s_drop] at this
theorem Bytes8.first {w : World} {A : Option Addr} {m c : Nat} {l : List UInt8} (h : Bytes8 w A m c l) {s : Nat} (hs : s ≤ m) : Bytes8 w A s c (l.take s) := by
  have hc := h.cap
  refine ⟨by rw [List.length_take, h.len]; omega, by omega, h.most, ?_⟩
  have := h.row.take s
  rwa [u8s_take] at this

/-- a variable that holds a slice of bytes -/
def RestAt (w : World) (q : Nat) (A : Option Addr) (m c : Nat) : Prop := w.heap[q]? = some (.cells #[.slice A m c] 24 (0, 0))

set_option maxHeartbeats 400000 in
theorem take_any (w0 w : World) (q : Nat) (A : Option Addr) (m c : Nat) (l : List UInt8) (s : Nat) (h : Bytes8 w0 A m c l) (hs : s ≤ m) (h0 : 0 < s) (hq : RestAt w q A m c) :
    Calls Try.prog 16 #[.int .i64 (s : Int), .pointer (some ⟨q, 0, none⟩)] w fun e w' => ∃ A2, e = .returned (.slice A s c) ∧ w' = w.setCell ⟨q, 0, none⟩ (.slice A2 (m - s) (c - s)) ∧ Bytes8 w0 A2 (m - s) (c - s) (l.drop s) := by
  obtain ⟨b, off, rfl, _, _⟩ := h.row.lit (by rw [u8s_length, h.len]; omega)
  have hr := Lib.hid (h.rest hs)
  have hc := h.cap
  have hm := h.most
  have hcq := cell_of_row w q 0 _ _ _ hq
  have hfq := frozen_of_row w q 0 _ _ hq
  clear h hq
  by_cases hcs : c = s
  · subst hcs
    rw [if_pos rfl] at hr
    obtain rfl : m = c := by omega
    go_enter Try.func16, Try.ntmps16
    go_wp2
    go_ret
    exact ⟨some ⟨b, off, none⟩, rfl, by rw [Nat.sub_self], hr.out⟩
  · rw [if_neg hcs] at hr
    go_enter Try.func16, Try.ntmps16
    go_wp2
    go_ret
    exact ⟨_, rfl, rfl, hr.out⟩

/-! ### decode -/
theorem okR_slot {s : List UInt8} (hl : s.length = 16) : rdE s slotS = if okR s slotS = true then 0 else 2 := by
  rw [rdE, if_neg (by rw [hl]; simp [sizeN, slotS])]
theorem sltR_rd {s : List UInt8} (h : rdE s slotS = 0) : sltR s = (rdV s slotS 0, rdV s slotS 1, rdV s slotS 2) := by
  simp only [sltR, rdV, if_pos h]
  rfl

/-- the slots after k of them have been decoded -/
def decP (ll : List (List UInt8)) (k : Nat) : List Slt := (ll.take k).map sltR ++ List.replicate (ll.length - k) (0, 0, 0)
theorem decP_zero (ll : List (List UInt8)) : decP ll 0 = List.replicate ll.length (0, 0, 0) := by simp [decP]
theorem decP_all (ll : List (List UInt8)) : decP ll ll.length = ll.map sltR := by simp [decP]
theorem decP_length (ll : List (List UInt8)) {k : Nat} (hk : k ≤ ll.length) : (decP ll k).length = ll.length := by
  simp only [decP, List.length_append, List.length_map, List.length_take, List.length_replicate]; omega
theorem decP_step (ll : List (List UInt8)) {k : Nat} (hk : k < ll.length) : (decP ll k).set k (sltR ll[k]) = decP ll (k + 1) := by
  have hl : ((ll.take k).map sltR).length = k := by rw [List.length_map, List.length_take]; omega
  rw [decP, List.set_append_right _ _ (by omega), hl, Nat.sub_self, decP, List.take_succ_eq_append_getElem hk, show ll.length - k = (ll.length - (k + 1)) + 1 by omega, List.replicate_succ, List.map_append, List.map_singleton, List.append_assoc]
  rfl

/-- what decode answers -/
def DecQ (ll : List (List UInt8)) (n : Nat) (w : World) (e : Ending) (w' : World) : Prop :=
  ((ll.all fun s => okR s slotS) = true → ∃ g, e = .returned (.tuple #[.slice (some ⟨g, 0, none⟩) n n, .int .i64 0]) ∧ OwnR w' 38 w.heap.size g (ll.map sltR)) ∧
  ((ll.all fun s => okR s slotS) = false → e = .returned (.tuple #[.slice none 0 0, .int .i64 2])) ∧ Below w.heap.size w w'
theorem DecQ.bad {ll : List (List UInt8)} {n : Nat} {w w' : World} (h : (ll.all fun s => okR s slotS) = false) (hb : Below w.heap.size w w') : DecQ ll n w (.returned (.tuple #[.slice none 0 0, .int .i64 2])) w' :=
  ⟨fun e => (by rw [h] at e; cases e), fun _ => rfl, hb⟩
theorem DecQ.good {ll : List (List UInt8)} {n : Nat} {w w' : World} {g : Nat} (h : (ll.all fun s => okR s slotS) = true) (hO : OwnR w' 38 w.heap.size g (ll.map sltR)) (hb : Below w.heap.size w w') : DecQ ll n w (.returned (.tuple #[.slice (some ⟨g, 0, none⟩) n n, .int .i64 0])) w' :=
  ⟨fun _ => ⟨g, rfl, hO⟩, fun e => (by rw [h] at e; cases e), hb⟩

set_option maxRecDepth 100000 in
set_option maxHeartbeats 1600000 in
theorem decode_any (A : Option Addr) (n c : Nat) (ll : List (List UInt8)) (w : World) (h : Strs w A n c ll) (h16 : ∀ s ∈ ll, s.length = 16) (hn : n ≤ 15) :
    Calls Try.prog 19 #[.slice A n c] w (DecQ ll n w) := by
  have hl := h.len
  obtain ⟨i0, hi0, hz0, hz1, hz2⟩ := info_parts info_slot
  have HC : Hid (∀ k (hk : k < n) (hkl : k < ll.length), ∃ b off y, A = some ⟨b, off, none⟩ ∧ b < w.heap.size ∧ y = ⟨ll[k].toArray⟩ ∧ w.cell? ⟨b, off + k, none⟩ = some (.string y)) := by
    intro k hk hkl
    obtain ⟨b, off, rfl, hb, hcell⟩ := h.row.lit (by rw [strV_length]; omega)
    exact ⟨b, off, _, rfl, hb, rfl, hcell k _ (strV_at ll k hkl)⟩
  have HL := Lib.hid hl
  have H16 := Lib.hid h16
  clear h hl h16
  go_enter Try.func19, Try.ntmps19
  go_wp2_with (at_make; refine wpList_make_full w rfl (.tmp 10) (.tmp 10) _ rfl w.heap.size 38 i0 _ 3 Try.underlying22 hi0 hz0 hz1 .i64 .i64 _ _ n rfl rfl rfl rfl (by rw [hz2]; omega) (by simp only [maxLen]; omega) (Nat.le_refl _) ?_; intro w1 hown1 hg1; have hb1 := below_of_grown hg1 (by simp); have HO1 := Lib.hid (own_zerosR hown1 (Nat.le_refl _)); clear hown1)
  have HO2 : Hid (OwnR w1 38 w.heap.size w.heap.size (decP ll 0)) := by rw [decP_zero, HL.out]; exact HO1.out
  have HB1 := Lib.hid hb1
  clear HO1 hb1 hg1 hi0 hz0 hz1 hz2
  go_loopw [14] (fun i wr => ∃ k : Nat, k ≤ n ∧ i = .int .i64 k ∧ Hid (OwnR wr 38 w.heap.size w.heap.size (decP ll k)) ∧ Hid (∀ q (hq : q < ll.length), q < k → okR ll[q] slotS = true) ∧ Hid (Below w.heap.size w wr)) (fun i _ => n - (intOf i).toNat)
  case atStart => exact ⟨0, by omega, rfl, HO2, fun q _ hq => by omega, HB1⟩
  case round =>
    clear HO2 HB1
    obtain ⟨k, hk, rfl, hO, hT, hbel⟩ := hrel
    by_cases hlt : k < n
    · have hkl : k < ll.length := by have := HL.out; omega
      obtain ⟨b, off, y, rfl, hb, hy, hd0⟩ := HC.out k hlt hkl
      have hc0 := (hbel.out.cell (p := ⟨b, off + k, none⟩) hb).trans hd0
      have h16k := H16.out _ (List.getElem_mem hkl)
      have hE := okR_slot h16k
      have RS : Hid (∀ W, Calls Try.prog 31 #[.string y] W fun e w' => e = .returned (.tuple #[.agg #[.int .i64 (rdV ll[k] slotS 0), .int .i64 (rdV ll[k] slotS 1), .int .i64 (rdV ll[k] slotS 2)], .int .i64 (rdE ll[k] slotS)]) ∧ Below W.heap.size W w') := fun W => by
        rw [hy]
        exact ReadSlot_any W ll[k] (by omega)
      have NO : Hid (okR ll[k] slotS = false → (ll.all fun s => okR s slotS) = false) := fun e => by
        rw [← Bool.not_eq_true, List.all_eq_true]
        intro hall
        rw [hall _ (List.getElem_mem hkl)] at e
        cases e
      have YES : Hid (okR ll[k] slotS = true → ∀ q (hq : q < ll.length), q < k + 1 → okR ll[q] slotS = true) := fun e q hq hqk => by
        by_cases hqe : q = k
        · subst hqe; exact e
        · exact hT.out q hq (by omega)
      have HS := Lib.hid (decP_step ll hkl)
      have hsl := decP_length ll (k := k) (by omega)
      have HR : Hid (rdE ll[k] slotS = 0 → sltR ll[k] = (rdV ll[k] slotS 0, rdV ll[k] slotS 1, rdV ll[k] slotS 2)) := sltR_rd
      generalize hsr : sltR ll[k] = sr at *
      clear hd0 hy hsr
      cases ho : okR ll[k] slotS with
      | false =>
        have HN := Lib.hid (NO.out ho)
        rw [if_neg (by rw [ho]; decide)] at hE
        rw [hE] at RS
        clear ho hE h16k HR
        generalize rdV ll[k] slotS 0 = x0 at *
        generalize rdV ll[k] slotS 1 = x1 at *
        generalize rdV ll[k] slotS 2 = x2 at *
        go_wp2_with (go_at_call 31; (with_reducible refine (RS.out _).mono ?_); rintro e w3 ⟨rfl, hb3⟩; have HB3 := Lib.hid (hbel.out.trans (hb3.mono hbel.out.size)); clear hb3)
        go_ret2
        exact DecQ.bad HN.out (HB3.out.alloc HB3.out.size _)
      | true =>
        have HY := Lib.hid (YES.out ho)
        rw [if_pos ho] at hE
        have HR2 := Lib.hid (HR.out hE)
        rw [hE] at RS
        clear ho hE h16k HR
        generalize rdV ll[k] slotS 0 = x0 at *
        generalize rdV ll[k] slotS 1 = x1 at *
        generalize rdV ll[k] slotS 2 = x2 at *
        have hsl2 : k < (decP ll k).length := by rw [hsl]; exact hkl
        go_wp2_with (go_at_call 31; (with_reducible refine (RS.out _).mono ?_); rintro e w3 ⟨rfl, hb3⟩; have hba : Below w3.heap.size w3 (w3.alloc (.cells #[.int .i64 x0, .int .i64 x1, .int .i64 x2] 38)) := (Below.refl _ _).alloc (Nat.le_refl _) _; have hO3 := (hO.out.later hb3).later hba; obtain ⟨z0, z1, z2⟩ := hO3.cells hsl2; have y0 := hO3.free (k * 3); have y1 := hO3.free (k * 3 + 1); have y2 := hO3.free (k * 3 + 2); have HO4 := Lib.hid (hO3.store k x0 x1 x2); have HB3 := Lib.hid (below_tri ((hbel.out.trans (hb3.mono hbel.out.size)).trans (hba.mono (by have := hbel.out.size; have := hb3.size; omega))) (Nat.le_refl _) (k * 3) (k * 3 + 1) (k * 3 + 2) (.int .i64 x0) (.int .i64 x1) (.int .i64 x2)); clear hb3 hba hO3)
        go_roundw
        case rel => exact ⟨k + 1, by omega, by go_num, by have := HO4.out; rw [← HR2.out, HS.out] at this; exact this, HY.out, HB3.out⟩
        case measure => simp [intOf]; omega
    · obtain rfl : k = n := by omega
      have HOK : Hid ((ll.all fun s => okR s slotS) = true) := by
        show _ = _
        rw [List.all_eq_true]
        intro s hs
        obtain ⟨q, hq, rfl⟩ := List.mem_iff_getElem.1 hs
        exact hT.out q hq (by have := HL.out; omega)
      have HO9 : Hid (OwnR wr 38 w.heap.size w.heap.size (ll.map sltR)) := by
        have := hO.out
        rw [← HL.out, decP_all] at this
        exact this
      clear hT hO
      go_wp2
      go_ret2
      exact DecQ.good HOK.out HO9.out hbel.out

end Go.Proofs.Ytolapeocdaknjaa
