/-
  Joined: SlotB, SlotC, SlotF.
-/
import Derived.Test.YtbeobbanppkmhaaGreatDoorJBlkA33
import Derived.Test.YtbeobbanppkmhaaGreatDoorJBlkA26
import Derived.Test.YtbeobbanppkmhaaGreatDoorJBlkA25
import Derived.Test.YtbeobbanppkmhaaGreatDoorJBlkA27
import Derived.Test.YtbeobbanppkmhaaGreatDoorJBlkA10
import Derived.Test.YtbeobbanppkmhaaGreatDoorJBlkA14
import Derived.Test.YtbeobbanppkmhaaGreatDoorJBlkA02
/-
  Layer 10: decode, and the function literal that takes from the input.
-/
namespace Go.Proofs.YtbeobbanppkmhaaGreatDoor
open Go.RowKit
set_option linter.unusedVariables false
set_option linter.unusedSimpArgs false

theorem info_slot : (Tryz.prog.info? 108).map (fun i => (i.zero, i.size, i.bytes)) = some (some (.agg #[.int .i64 0, .int .i64 0, .int .i64 0]), 3, 24) := by kernel_rfl
theorem info_text : (Tryz.prog.info? 9).map (fun i => (i.zero, i.size, i.bytes)) = some (some (.string ByteArray.empty), 1, 16) := by kernel_rfl

/-- the bytes from s on -/
theorem Bytes8.rest {w : World} {b off m c : Nat} {l : List UInt8} (h : Bytes8 w (some ⟨b, off, none⟩) m c l) {s : Nat} (hs : s ≤ m) : Bytes8 w (if c = s then some ⟨b, off, none⟩ else some ⟨b, off + s, none⟩) (m - s) (c - s) (l.drop s) := by
  have hc := h.cap
  have hm := h.most
  refine ⟨by rw [List.length_drop, h.len], by omega, by omega, ?_⟩
  have := h.row.cut_lit (m := s) (c := c) (by rw [u8s_length, h.len]; exact hc)
  rwa [u8s_drop] at this
theorem Bytes8.first {w : World} {A : Option Addr} {m c : Nat} {l : List UInt8} (h : Bytes8 w A m c l) {s : Nat} (hs : s ≤ m) : Bytes8 w A s c (l.take s) := by
  have hc := h.cap
  refine ⟨by rw [List.length_take, h.len]; omega, by omega, h.most, ?_⟩
  have := h.row.take s
  rwa [u8s_take] at this

/-- a variable that holds a slice of bytes -/
def RestAt (w : World) (q : Nat) (A : Option Addr) (m c : Nat) : Prop := w.heap[q]? = some (.cells #[.slice A m c] 22 (0, 0))

set_option maxRecDepth 100000 in
set_option maxHeartbeats 400000 in
theorem take_any (w0 w : World) (q : Nat) (A : Option Addr) (m c : Nat) (l : List UInt8) (s : Nat) (h : Bytes8 w0 A m c l) (hs : s ≤ m) (h0 : 0 < s) (hq : RestAt w q A m c) :
    Calls Tryz.prog 102 #[.int .i64 (s : Int), .pointer (some ⟨q, 0, none⟩)] w fun e w' => ∃ A2, e = .returned (.slice A s c) ∧ w' = w.setCell ⟨q, 0, none⟩ (.slice A2 (m - s) (c - s)) ∧ Bytes8 w0 A2 (m - s) (c - s) (l.drop s) := by
  obtain ⟨b, off, rfl, _, _⟩ := h.row.lit (by rw [u8s_length, h.len]; omega)
  have hr := Lib.hid (h.rest hs)
  have hc := h.cap
  have hm := h.most
  have hcq := cell_of_row w q 0 _ _ _ hq
  have hfq := frozen_of_row w q 0 _ _ hq
  clear h hq
  by_cases hcs : c = s
  · subst hcs
    rw [if_pos rfl] at hr
    obtain rfl : m = c := by omega
    go_enter Tryz.func102, Tryz.ntmps102
    go_wp2
    go_ret
    exact ⟨some ⟨b, off, none⟩, rfl, by rw [Nat.sub_self], hr.out⟩
  · rw [if_neg hcs] at hr
    go_enter Tryz.func102, Tryz.ntmps102
    go_wp2
    go_ret
    exact ⟨_, rfl, rfl, hr.out⟩

/-! ### decode -/
theorem okR_slot {s : List UInt8} (hl : s.length = 16) : rdE s slotS = if okR s slotS = true then 0 else 2 := by
  rw [rdE, if_neg (by rw [hl]; simp [sizeN, slotS])]
theorem sltR_rd {s : List UInt8} (h : rdE s slotS = 0) : sltR s = (rdV s slotS 0, rdV s slotS 1, rdV s slotS 2) := by
  simp only [sltR, rdV, if_pos h]
  rfl

/-- the slots after k of them have been decoded -/
def decP (ll : List (List UInt8)) (k : Nat) : List Slt := (ll.take k).map sltR ++ List.replicate (ll.length - k) (0, 0, 0)
theorem decP_zero (ll : List (List UInt8)) : decP ll 0 = List.replicate ll.length (0, 0, 0) := by simp [decP]
theorem decP_all (ll : List (List UInt8)) : decP ll ll.length = ll.map sltR := by simp [decP]
theorem decP_length (ll : List (List UInt8)) {k : Nat} (hk : k ≤ ll.length) : (decP ll k).length = ll.length := by
  simp only [decP, List.length_append, List.length_map, List.length_take, List.length_replicate]; omega
theorem decP_step (ll : List (List UInt8)) {k : Nat} (hk : k < ll.length) : (decP ll k).set k (sltR ll[k]) = decP ll (k + 1) := by
  have hl : ((ll.take k).map sltR).length = k := by rw [List.length_map, List.length_take]; omega
  rw [decP, List.set_append_right _ _ (by omega), hl, Nat.sub_self, decP, List.take_succ_eq_append_getElem hk, show ll.length - k = (ll.length - (k + 1)) + 1 by omega, List.replicate_succ, List.map_append, List.map_singleton, List.append_assoc]
  rfl

/-- what decode answers -/
def DecQ (ll : List (List UInt8)) (n : Nat) (w : World) (e : Ending) (w' : World) : Prop :=
  ((ll.all fun s => okR s slotS) = true → ∃ g, e = .returned (.tuple #[.slice (some ⟨g, 0, none⟩) n n, .int .i64 0]) ∧ OwnR w' 108 w.heap.size g (ll.map sltR)) ∧
  ((ll.all fun s => okR s slotS) = false → e = .returned (.tuple #[.slice none 0 0, .int .i64 2])) ∧ Below w.heap.size w w'
theorem DecQ.bad {ll : List (List UInt8)} {n : Nat} {w w' : World} (h : (ll.all fun s => okR s slotS) = false) (hb : Below w.heap.size w w') : DecQ ll n w (.returned (.tuple #[.slice none 0 0, .int .i64 2])) w' :=
  ⟨fun e => (by rw [h] at e; cases e), fun _ => rfl, hb⟩
theorem DecQ.good {ll : List (List UInt8)} {n : Nat} {w w' : World} {g : Nat} (h : (ll.all fun s => okR s slotS) = true) (hO : OwnR w' 108 w.heap.size g (ll.map sltR)) (hb : Below w.heap.size w w') : DecQ ll n w (.returned (.tuple #[.slice (some ⟨g, 0, none⟩) n n, .int .i64 0])) w' :=
  ⟨fun _ => ⟨g, rfl, hO⟩, fun e => (by rw [h] at e; cases e), hb⟩

set_option maxRecDepth 100000 in
set_option maxHeartbeats 1600000 in
theorem decode_any (A : Option Addr) (n c : Nat) (ll : List (List UInt8)) (w : World) (h : Strs w A n c ll) (h16 : ∀ s ∈ ll, s.length = 16) (hn : n ≤ 15) :
    Calls Tryz.prog 103 #[.slice A n c] w (DecQ ll n w) := by
  have hl := h.len
  obtain ⟨i0, hi0, hz0, hz1, hz2⟩ := info_parts info_slot
  have HC : Hid (∀ k (hk : k < n) (hkl : k < ll.length), ∃ b off y, A = some ⟨b, off, none⟩ ∧ b < w.heap.size ∧ y = ⟨ll[k].toArray⟩ ∧ w.cell? ⟨b, off + k, none⟩ = some (.string y)) := by
    intro k hk hkl
    obtain ⟨b, off, rfl, hb, hcell⟩ := h.row.lit (by rw [strV_length]; omega)
    exact ⟨b, off, _, rfl, hb, rfl, hcell k _ (strV_at ll k hkl)⟩
  have HL := Lib.hid hl
  have H16 := Lib.hid h16
  clear h hl h16
  go_enter Tryz.func103, Tryz.ntmps103
  go_wp2_with (at_make; refine wpList_make_full w rfl (.tmp 10) (.tmp 10) _ rfl w.heap.size 108 i0 _ 3 Tryz.underlying52 hi0 hz0 hz1 .i64 .i64 _ _ n rfl rfl rfl rfl (by rw [hz2]; omega) (by simp only [maxLen]; omega) (Nat.le_refl _) ?_; intro w1 hown1 hg1; have hb1 := below_of_grown hg1 (by simp); have HO1 := Lib.hid (own_zerosR hown1 (Nat.le_refl _)); clear hown1)
  have HO2 : Hid (OwnR w1 108 w.heap.size w.heap.size (decP ll 0)) := by rw [decP_zero, HL.out]; exact HO1.out
  have HB1 := Lib.hid hb1
  clear HO1 hb1 hg1 hi0 hz0 hz1 hz2
  go_loopw [14] (fun i wr => ∃ k : Nat, k ≤ n ∧ i = .int .i64 k ∧ Hid (OwnR wr 108 w.heap.size w.heap.size (decP ll k)) ∧ Hid (∀ q (hq : q < ll.length), q < k → okR ll[q] slotS = true) ∧ Hid (Below w.heap.size w wr)) (fun i _ => n - (intOf i).toNat)
  case atStart => exact ⟨0, by omega, rfl, HO2, fun q _ hq => by omega, HB1⟩
  case round =>
    clear HO2 HB1
    obtain ⟨k, hk, rfl, hO, hT, hbel⟩ := hrel
    by_cases hlt : k < n
    · have hkl : k < ll.length := by have := HL.out; omega
      obtain ⟨b, off, y, rfl, hb, hy, hd0⟩ := HC.out k hlt hkl
      have hc0 := (hbel.out.cell (p := ⟨b, off + k, none⟩) hb).trans hd0
      have h16k := H16.out _ (List.getElem_mem hkl)
      have hE := okR_slot h16k
      have RS : Hid (∀ W, Calls Tryz.prog 136 #[.string y] W fun e w' => e = .returned (.tuple #[.agg #[.int .i64 (rdV ll[k] slotS 0), .int .i64 (rdV ll[k] slotS 1), .int .i64 (rdV ll[k] slotS 2)], .int .i64 (rdE ll[k] slotS)]) ∧ Below W.heap.size W w') := fun W => by
        rw [hy]
        exact ReadSlot_any W ll[k] (by omega)
      have NO : Hid (okR ll[k] slotS = false → (ll.all fun s => okR s slotS) = false) := fun e => by
        rw [← Bool.not_eq_true, List.all_eq_true]
        intro hall
        rw [hall _ (List.getElem_mem hkl)] at e
        cases e
      have YES : Hid (okR ll[k] slotS = true → ∀ q (hq : q < ll.length), q < k + 1 → okR ll[q] slotS = true) := fun e q hq hqk => by
        by_cases hqe : q = k
        · subst hqe; exact e
        · exact hT.out q hq (by omega)
      have HS := Lib.hid (decP_step ll hkl)
      have hsl := decP_length ll (k := k) (by omega)
      have HR : Hid (rdE ll[k] slotS = 0 → sltR ll[k] = (rdV ll[k] slotS 0, rdV ll[k] slotS 1, rdV ll[k] slotS 2)) := sltR_rd
      generalize hsr : sltR ll[k] = sr at *
      clear hd0 hy hsr
      cases ho : okR ll[k] slotS with
      | false =>
        have HN := Lib.hid (NO.out ho)
        rw [if_neg (by rw [ho]; decide)] at hE
        rw [hE] at RS
        clear ho hE h16k HR
        generalize rdV ll[k] slotS 0 = x0 at *
        generalize rdV ll[k] slotS 1 = x1 at *
        generalize rdV ll[k] slotS 2 = x2 at *
        go_wp2_with (go_at_call 136; (with_reducible refine (RS.out _).mono ?_); rintro e w3 ⟨rfl, hb3⟩; have HB3 := Lib.hid (hbel.out.trans (hb3.mono hbel.out.size)); clear hb3)
        go_ret2
        exact DecQ.bad HN.out (HB3.out.alloc HB3.out.size _)
      | true =>
        have HY := Lib.hid (YES.out ho)
        rw [if_pos ho] at hE
        have HR2 := Lib.hid (HR.out hE)
        rw [hE] at RS
        clear ho hE h16k HR
        generalize rdV ll[k] slotS 0 = x0 at *
        generalize rdV ll[k] slotS 1 = x1 at *
        generalize rdV ll[k] slotS 2 = x2 at *
        have hsl2 : k < (decP ll k).length := by rw [hsl]; exact hkl
        go_wp2_with (go_at_call 136; (with_reducible refine (RS.out _).mono ?_); rintro e w3 ⟨rfl, hb3⟩; have hba : Below w3.heap.size w3 (w3.alloc (.cells #[.int .i64 x0, .int .i64 x1, .int .i64 x2] 108)) := (Below.refl _ _).alloc (Nat.le_refl _) _; have hO3 := (hO.out.later hb3).later hba; obtain ⟨z0, z1, z2⟩ := hO3.cells hsl2; have y0 := hO3.free (k * 3); have y1 := hO3.free (k * 3 + 1); have y2 := hO3.free (k * 3 + 2); have HO4 := Lib.hid (hO3.store k x0 x1 x2); have HB3 := Lib.hid (below_tri ((hbel.out.trans (hb3.mono hbel.out.size)).trans (hba.mono (by have := hbel.out.size; have := hb3.size; omega))) (Nat.le_refl _) (k * 3) (k * 3 + 1) (k * 3 + 2) (.int .i64 x0) (.int .i64 x1) (.int .i64 x2)); clear hb3 hba hO3)
        go_roundw
        case rel => exact ⟨k + 1, by omega, by go_num, by have := HO4.out; rw [← HR2.out, HS.out] at this; exact this, HY.out, HB3.out⟩
        case measure => simp [intOf]; omega
    · obtain rfl : k = n := by omega
      have HOK : Hid ((ll.all fun s => okR s slotS) = true) := by
        show _ = _
        rw [List.all_eq_true]
        intro s hs
        obtain ⟨q, hq, rfl⟩ := List.mem_iff_getElem.1 hs
        exact hT.out q hq (by have := HL.out; omega)
      have HO9 : Hid (OwnR wr 108 w.heap.size w.heap.size (ll.map sltR)) := by
        have := hO.out
        rw [← HL.out, decP_all] at this
        exact this
      clear hT hO
      go_wp2
      go_ret2
      exact DecQ.good HOK.out HO9.out hbel.out

end Go.Proofs.YtbeobbanppkmhaaGreatDoor

/-
  Layer 10: Read.
-/
namespace Go.Proofs.YtbeobbanppkmhaaGreatDoor
open Go.RowKit
set_option linter.unusedVariables false
set_option linter.unusedSimpArgs false

theorem readSE10_bad {b : List UInt8} (h : formS b = false) : readSE10 b = 7 ∧ readSL10 b = [] := by
  have e : readSE10 b = 7 := by rw [readSE10, h]; rfl
  exact ⟨e, by rw [readSL10, if_neg (by rw [e]; decide)]⟩
theorem readSE10_good {b : List UInt8} (h : formS b = true) {r : Bool} (hr : (List.range (numS b)).all (fun i => okR (sltAt10 b i) slotS) = r) : readSE10 b = (if r = true then 0 else 2) ∧ readSL10 b = (if r = true then readS10 b else []) := by
  have e : readSE10 b = (if r = true then 0 else 2) := by rw [readSE10, if_pos h, hr]
  refine ⟨e, ?_⟩
  rw [readSL10, e]
  cases r <;> rfl
theorem formS_no {b : List UInt8} (h : ¬ (b.length = 244 ∧ numS b ≤ 15)) : formS b = false := by
  rw [← Bool.not_eq_true, formS, Bool.and_eq_true, Bool.and_eq_true, decide_eq_true_eq, decide_eq_true_eq]
  rintro ⟨h1, h2, _⟩
  exact h ⟨h1, h2⟩
theorem formS_zero {b : List UInt8} (h : b.length = 244) (hn : numS b ≤ 15) {r : Bool} (hr : zeroB (b.drop (4 + 16 * numS b)) = r) : formS b = r := by
  rw [formS, hr, decide_eq_true h, decide_eq_true hn]
  rfl

/-- what Read answers -/
def SlRd (b : List UInt8) (w : World) (e : Ending) (w' : World) : Prop := ∃ A m c, e = .returned (.tuple #[.slice A m c, .int .i64 (readSE10 b)]) ∧ Trs w' A m c (readSL10 b) ∧ Below w.heap.size w w'
theorem SlRd.bad {b : List UInt8} {w w' : World} (h : formS b = false) (hb : Below w.heap.size w w') : SlRd b w (.returned (.tuple #[.slice none 0 0, .int .i64 7])) w' := by
  obtain ⟨e1, e2⟩ := readSE10_bad h
  exact ⟨none, 0, 0, by rw [e1], by rw [e2]; exact Trs.nil _, hb⟩

/-- the first four bytes -/
theorem slot_get {l : List UInt8} (h : 4 ≤ l.length) : getE (l.take 4) 0 4 = 0 ∧ getN (l.take 4) 0 4 = (numS l : Int) := val_get4 (by rw [List.length_take]; omega)

/-- the texts as they are taken -/
def tookP (l : List UInt8) (N k : Nat) : List (List UInt8) := (List.range k).map (sltAt10 l) ++ List.replicate (N - k) []
theorem tookP_zero (l : List UInt8) (N : Nat) : tookP l N 0 = List.replicate N [] := by simp [tookP]
theorem tookP_length (l : List UInt8) {N k : Nat} (h : k ≤ N) : (tookP l N k).length = N := by simp [tookP]; omega
theorem tookP_all (l : List UInt8) (N : Nat) : tookP l N N = (List.range N).map (sltAt10 l) := by simp [tookP]
theorem tookP_step (l : List UInt8) {N k : Nat} (hk : k < N) : (tookP l N k).set k (sltAt10 l k) = tookP l N (k + 1) := by
  rw [tookP, List.set_append_right _ _ (by simp), tookP, List.range_succ, List.map_append, show N - k = (N - (k + 1)) + 1 by omega, List.replicate_succ]
  simp

set_option maxRecDepth 100000 in
set_option maxHeartbeats 400000 in
theorem SlRead_len (A : Option Addr) (n c : Nat) (l : List UInt8) (w : World) (h : Bytes8 w A n c l) (hn : n ≠ 244) :
    Calls Tryz.prog 50 #[.slice A n c] w (SlRd l w) := by
  have hle := h.le
  have E := Lib.hid (SlRd.bad (b := l) (w := w) (formS_no fun hh => hn (h.len.symm.trans hh.1)) (Below.refl _ _))
  have hne : ((n : Int) != 244) = true := by simp; omega
  clear h hn
  go_enter Tryz.func50, Tryz.ntmps50
  go_wp2
  go_ret2
  exact E.out

/-- what Read keeps: its variable, the texts, all below as it was -/
structure TookAt (w W : World) (q g : Nat) (l : List UInt8) (N k : Nat) : Prop where
  bel : Below w.heap.size w W
  low : w.heap.size ≤ q
  apart : g ≠ q
  txt : OwnT W w.heap.size g (tookP l N k)
  rest : ∃ A m c, RestAt W q A m c ∧ Bytes8 w A m c (l.drop (4 + 16 * k))

theorem TookAt.step {w W : World} {q g : Nat} {l : List UInt8} {N k : Nat} (h : TookAt w W q g l N k) (hk : k < N) (hl : l.length = 244) (hN : N ≤ 15) : ∃ A m c, 16 ≤ m ∧ Bytes8 w A m c (l.drop (4 + 16 * k)) ∧ RestAt W q A m c ∧
    ∀ A2, Bytes8 w A2 (m - 16) (c - 16) ((l.drop (4 + 16 * k)).drop 16) → (convert 22 9 (.slice A 16 c)).run Tryz.prog (W.setCell ⟨q, 0, none⟩ (.slice A2 (m - 16) (c - 16))) = .ok (.string ⟨(sltAt10 l k).toArray⟩) (W.setCell ⟨q, 0, none⟩ (.slice A2 (m - 16) (c - 16))) ∧
      (∃ z, (W.setCell ⟨q, 0, none⟩ (.slice A2 (m - 16) (c - 16))).cell? ⟨g, k, none⟩ = some (.string z)) ∧ (W.setCell ⟨q, 0, none⟩ (.slice A2 (m - 16) (c - 16))).frozen? ⟨g, k, none⟩ = false ∧
      TookAt w ((W.setCell ⟨q, 0, none⟩ (.slice A2 (m - 16) (c - 16))).setCell ⟨g, k, none⟩ (.string ⟨(sltAt10 l k).toArray⟩)) q g l N (k + 1) := by
  obtain ⟨A, m, c, hr, hB⟩ := h.rest
  have hm : m = 244 - (4 + 16 * k) := by rw [← hB.len, List.length_drop, hl]
  have hm2 : 16 ≤ m := by omega
  refine ⟨A, m, c, hm2, hB, hr, fun A2 hB2 => ?_⟩
  have hb2 : Below w.heap.size w (W.setCell ⟨q, 0, none⟩ (.slice A2 (m - 16) (c - 16))) := h.bel.setCell (p := ⟨q, 0, none⟩) h.low _
  have hT2 : OwnT (W.setCell ⟨q, 0, none⟩ (.slice A2 (m - 16) (c - 16))) w.heap.size g (tookP l N k) := h.txt.other _ _ h.apart
  have hr2 : RestAt (W.setCell ⟨q, 0, none⟩ (.slice A2 (m - 16) (c - 16))) q A2 (m - 16) (c - 16) := by
    unfold RestAt
    rw [heap_setCell_same _ q 0 _ _ _ hr]
    rfl
  refine ⟨run_str ((hB.first hm2).below hb2), ⟨_, hT2.cell (by rw [tookP_length l (by omega)]; exact hk)⟩, hT2.free k, ?_⟩
  refine ⟨hb2.setCell (p := ⟨g, k, none⟩) h.txt.low _, h.low, h.apart, ?_, ⟨A2, m - 16, c - 16, ?_, ?_⟩⟩
  · have := hT2.set k (sltAt10 l k)
    rw [tookP_step l hk] at this
    exact this
  · unfold RestAt
    rw [heap_setCell_other _ _ q _ (fun e => h.apart e.symm)]
    exact hr2
  · rw [List.drop_drop] at hB2
    exact hB2

set_option maxRecDepth 100000 in
set_option maxHeartbeats 3200000 in
theorem SlRead_full (A : Option Addr) (c : Nat) (l : List UInt8) (w : World) (h : Bytes8 w A 244 c l) :
    Calls Tryz.prog 50 #[.slice A 244 c] w (SlRd l w) := by
  have hl := h.len
  have hcap := h.cap
  have hmost := h.most
  have hmf : ∀ (fn : Fn) (first cap : Array Value) (w : World), (Instr.makeFunc fn first cap).run Tryz.prog w = .ok (.func fn first cap) w := fun _ _ _ _ => rfl
  obtain ⟨i0, hi0, hz0, hz1, hz2⟩ := info_parts info_text
  have T1 : Hid (Calls Tryz.prog 102 #[.int .i64 4, .pointer (some ⟨w.heap.size, 0, none⟩)] (w.alloc (.cells #[.slice A 244 c] 22)) fun e w' => ∃ A2 c2, e = .returned (.slice A 4 c) ∧ RestAt w' w.heap.size A2 240 c2 ∧ Bytes8 w A2 240 c2 (l.drop 4) ∧ Below w.heap.size w w' ∧ w.heap.size < w'.heap.size) := by
    have hq1 : RestAt (w.alloc (.cells #[.slice A 244 c] 22)) w.heap.size A 244 c := heap_alloc_new w _
    have hb1 : Below w.heap.size w (w.alloc (.cells #[.slice A 244 c] 22)) := (Below.refl _ _).alloc (Nat.le_refl _) _
    refine (take_any w _ w.heap.size A 244 c l 4 h (by omega) (by omega) hq1).mono ?_
    rintro e w' ⟨A2, rfl, rfl, hB⟩
    refine ⟨A2, c - 4, rfl, ?_, hB, hb1.setCell (p := ⟨w.heap.size, 0, none⟩) (Nat.le_refl _) _, by simp [World.setCell]⟩
    unfold RestAt
    rw [heap_setCell_same _ _ 0 _ _ _ hq1]
    rfl
  obtain ⟨g1, g2⟩ := slot_get (l := l) (by omega)
  have HL := Lib.hid hl
  have GT : Hid (∀ W, Below w.heap.size w W → Calls Tryz.prog 82 #[.slice A 4 c, .int .i64 0, .int .i64 4] W fun e w' => e = .returned (.tuple #[.int .i64 (numS l : Int), .int .i64 0]) ∧ Below W.heap.size W w') := fun W hW => by
    have := Get_any A 4 c (l.take 4) 0 4 W ((h.first (by omega)).below hW) (by omega)
    rw [g1, g2] at this
    exact this
  have BAD : Hid (∀ W, Below w.heap.size w W → 15 < numS l → SlRd l w (.returned (.tuple #[.slice none 0 0, .int .i64 7])) W) := fun W hW hn => SlRd.bad (formS_no fun hh => by omega) hW
  clear h hl g1 g2
  generalize hN : numS l = N at *
  have HN := Lib.hid hN
  clear hN
  have hne : (((244 : Nat) : Int) != 244) = false := by simp
  by_cases h15 : N ≤ 15
  · have hd : decide ((15 : Int) < (N : Int)) = false := by simp; omega
    go_enter Tryz.func50, Tryz.ntmps50
    go_wp2_with (first
      | (go_at_call 102; (with_reducible refine (T1.out).mono ?_); rintro e w2 ⟨A2, c2, rfl, hr2, hB2, hb2, hs2⟩; have HR2 := Lib.hid hr2; have HB2 := Lib.hid hB2; clear hB2 hr2)
      | (go_at_call 82; (with_reducible refine (GT.out _ hb2).mono ?_); rintro e w3 ⟨rfl, hb3⟩)
      | (at_make; refine wpList_make_full w3 rfl (.tmp 27) (.tmp 27) _ rfl w3.heap.size 9 i0 _ 1 Tryz.underlying39 hi0 hz0 hz1 .i64 .i64 _ _ N rfl rfl rfl rfl (by rw [hz2]; omega) (by simp only [maxLen]; omega) (Nat.le_refl _) ?_; intro w4 hown4 hg4; have hb4 := below_of_grown hg4 (by simp); have HO4 := Lib.hid (own_zerosT hown4 (Nat.le_refl _)); clear hown4))
    have hs3 := hb3.size
    have hT : Hid (TookAt w w4 w.heap.size w3.heap.size l N 0) := ⟨(hb2.trans (hb3.mono hb2.size)).trans (hb4.mono (by omega)), Nat.le_refl _, by omega, ⟨by omega, by rw [tookP_zero]; exact HO4.out.blk⟩, ⟨A2, 240, c2, (hb4.block _ (by omega)).trans ((hb3.block _ hs2).trans HR2.out), HB2.out⟩⟩
    clear hs3 HO4 hb4 hb3 hb2 hs2 HR2 HB2 T1 GT hi0 hz0 hz1 hz2 hg4
    generalize w3.heap.size = g at *
    go_loopw [31] (fun i wr => ∃ k : Nat, k ≤ N ∧ i = .int .i64 k ∧ Hid (TookAt w wr w.heap.size g l N k)) (fun i _ => N - (intOf i).toNat)
    case atStart => exact ⟨0, by omega, rfl, hT⟩
    case round =>
      clear hT
      obtain ⟨k, hk, rfl, hT⟩ := hrel
      by_cases hlt : k < N
      · obtain ⟨A3, m3, c3, hm3, hB3, hr3, hst⟩ := hT.out.step hlt HL.out h15
        have TK : Hid (Calls Tryz.prog 102 #[.int .i64 16, .pointer (some ⟨w.heap.size, 0, none⟩)] wr fun e w' => ∃ A2, e = .returned (.slice A3 16 c3) ∧ w' = wr.setCell ⟨w.heap.size, 0, none⟩ (.slice A2 (m3 - 16) (c3 - 16)) ∧ Bytes8 w A2 (m3 - 16) (c3 - 16) ((l.drop (4 + 16 * k)).drop 16)) := take_any w wr w.heap.size A3 m3 c3 _ 16 hB3 hm3 (by omega) hr3
        have HST := Lib.hid hst
        clear hst hB3 hr3 hm3
        go_wp2_with (go_at_call 102; (with_reducible refine (TK.out).mono ?_); rintro e w5 ⟨A5, rfl, rfl, hB5⟩; obtain ⟨cv, ⟨z, hz⟩, hfz, hT5⟩ := HST.out A5 hB5; have HT5 := Lib.hid hT5; clear hT5 hB5)
        go_roundw
        case rel => exact ⟨k + 1, by omega, by go_num, HT5⟩
        case measure => simp [intOf]; omega
      · obtain rfl : k = N := by omega
        obtain ⟨A3, m3, c3, hr3, hB3⟩ := hT.out.rest
        have hc3 := cell_of_row wr w.heap.size 0 _ _ _ hr3
        have hB4 := hB3.below hT.out.bel
        have hmx : m3 ≤ 9223372036854775807 := hB4.le
        cases hz : zeroB (l.drop (4 + 16 * k)) with
        | false =>
          have Z := Lib.hid (Zero_any A3 m3 c3 _ wr hB4 false hz)
          have E : Hid (SlRd l w (.returned (.tuple #[.slice none 0 0, .int .i64 7])) wr) := SlRd.bad (formS_zero HL.out (by rw [HN.out]; exact h15) (by rw [HN.out]; exact hz)) hT.out.bel
          clear hz hr3 hB3 hB4
          go_wp2_with (go_at_call 94; (with_reducible refine (Z.out).mono ?_); rintro e w' ⟨rfl, rfl⟩)
          go_ret2
          exact E.out
        | true =>
          have Z := Lib.hid (Zero_any A3 m3 c3 _ wr hB4 true hz)
          have hF : formS l = true := formS_zero HL.out (by rw [HN.out]; exact h15) (by rw [HN.out]; exact hz)
          have D : Hid (Calls Tryz.prog 103 #[.slice (some ⟨g, 0, none⟩) k k] wr fun e w' => ∃ A m c x, e = .returned (.tuple #[.slice A m c, .int .i64 x]) ∧ SlRd l w (.returned (.tuple #[.slice A m c, .int .i64 x])) w') := by
            have hO := hT.out.txt
            rw [tookP_all] at hO
            refine (decode_any _ k k _ wr (hO.strs (by simp) (by omega)) ?_ h15).mono ?_
            · intro s hs
              obtain ⟨i, hi, rfl⟩ := List.mem_map.1 hs
              have := List.mem_range.1 hi
              rw [sltAt10, List.length_take, List.length_drop, HL.out]
              omega
            · rintro e w' ⟨h1, h2, h3⟩
              have hall : (List.all ((List.range k).map (sltAt10 l)) fun s => okR s slotS) = (List.range (numS l)).all (fun i => okR (sltAt10 l i) slotS) := by rw [List.all_map, HN.out]; rfl
              have hb := hT.out.bel.trans (h3.mono hT.out.bel.size)
              cases hr : (List.all ((List.range k).map (sltAt10 l)) fun s => okR s slotS) with
              | true =>
                obtain ⟨g', rfl, hO'⟩ := h1 hr
                obtain ⟨e1, e2⟩ := readSE10_good hF (hall.symm.trans hr)
                refine ⟨_, _, _, _, rfl, _, k, k, by rw [e1]; rfl, ?_, hb⟩
                rw [e2, if_pos rfl, readS10, HN.out]
                have := hO'.trs (n := k) (by simp) (by omega)
                rw [List.map_map] at this
                exact this
              | false =>
                obtain rfl := h2 hr
                obtain ⟨e1, e2⟩ := readSE10_good hF (hall.symm.trans hr)
                exact ⟨_, _, _, _, rfl, none, 0, 0, by rw [e1]; rfl, by rw [e2]; exact Trs.nil _, hb⟩
          clear hz hr3 hB3 hB4 hF
          go_wp2_with (first
            | (go_at_call 94; (with_reducible refine (Z.out).mono ?_); rintro e w' ⟨rfl, rfl⟩)
            | (go_at_call 103; (with_reducible refine (D.out).mono ?_); rintro e w6 ⟨A6, m6, c6, x6, rfl, hR⟩; have HR := Lib.hid hR; clear hR))
          go_ret2
          exact HR.out
  · have hd : decide ((15 : Int) < (N : Int)) = true := by simp; omega
    go_enter Tryz.func50, Tryz.ntmps50
    go_wp2_with (first
      | (go_at_call 102; (with_reducible refine (T1.out).mono ?_); rintro e w2 ⟨A2, c2, rfl, hr2, hB2, hb2, hs2⟩; clear hB2 hr2)
      | (go_at_call 82; (with_reducible refine (GT.out _ hb2).mono ?_); rintro e w3 ⟨rfl, hb3⟩))
    go_ret2
    exact BAD.out _ (hb2.trans (hb3.mono hb2.size)) (by omega)

theorem SlRead_any (A : Option Addr) (n c : Nat) (l : List UInt8) (w : World) (h : Bytes8 w A n c l) :
    Calls Tryz.prog 50 #[.slice A n c] w (SlRd l w) := by
  by_cases hn : n = 244
  · subst hn
    exact SlRead_full A c l w h
  · exact SlRead_len A n c l w h hn

end Go.Proofs.YtbeobbanppkmhaaGreatDoor

/-
  Layer 10: the reference's Read.
-/
namespace Go.Proofs.YtbeobbanppkmhaaGreatDoor
open Go.RowKit
set_option linter.unusedVariables false
set_option linter.unusedSimpArgs false

/-- what Read answers, and what it hands back is newer than all that stood -/
def SlRdF (b : List UInt8) (w : World) (e : Ending) (w' : World) : Prop := ∃ A m c, e = .returned (.tuple #[.slice A m c, .int .i64 (readSE10 b)]) ∧ Trs w' A m c (readSL10 b) ∧ Below w.heap.size w w' ∧ Newer w.heap.size A
theorem SlRdF.bad {b : List UInt8} {w w' : World} (h : formS b = false) (hb : Below w.heap.size w w') : SlRdF b w (.returned (.tuple #[.slice none 0 0, .int .i64 7])) w' := by
  obtain ⟨h1, h2⟩ := readSE10_bad h
  exact ⟨none, 0, 0, by rw [h1], by rw [h2]; exact Trs.nil _, hb, Newer.nil _⟩

end Go.Proofs.YtbeobbanppkmhaaGreatDoor
