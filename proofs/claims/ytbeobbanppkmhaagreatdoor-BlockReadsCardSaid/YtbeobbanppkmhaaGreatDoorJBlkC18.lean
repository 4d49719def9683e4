/-
  Joined: BitE, BitF.
-/
import Derived.Deep.RegionHeld3
import Derived.Deep.AppendLies
import Derived.IntWalk
import Derived.Test.YtbeobbanppkmhaaGreatDoorJBlkC14
import Derived.Test.YtbeobbanppkmhaaGreatDoorJBlkC11
import Derived.Test.YtbeobbanppkmhaaGreatDoorJBlkC02
import Derived.Test.YtbeobbanppkmhaaGreatDoorJBlkC15
import Derived.Test.YtbeobbanppkmhaaGreatDoorJBlkC10
/-
  Layer 9: the reference's Put.
-/
namespace Go.Proofs.YtbeobbanppkmhaaGreatDoor
open Go.RowKit
set_option linter.unusedVariables false
set_option linter.unusedSimpArgs false

/-- what a Put answers -/
def PutP9 (l : List Int) (w : World) (e : Ending) (w' : World) : Prop := ∃ A' m c', e = .returned (.tuple #[.slice A' m c', .int .i64 (putBE9 l)]) ∧ Bytes8 w' A' m c' (putBB9 l) ∧ Below w.heap.size w w'
theorem PutP9.bad {l : List Int} {w w' : World} (h : okB9 l = false) (hb : Below w.heap.size w w') : PutP9 l w (.returned (.tuple #[.slice none 0 0, .int .i64 1])) w' :=
  ⟨none, 0, 0, by simp [putBE9, h], by simpa [putBB9, h] using Bytes8.nil w', hb⟩
theorem PutP9.good {l : List Int} {w w' : World} {A : Option Addr} {m c : Nat} (h : okB9 l = true) (hB : Bytes8 w' A m c (encBits l)) (hb : Below w.heap.size w w') : PutP9 l w (.returned (.tuple #[.slice A m c, .int .i64 0])) w' :=
  ⟨A, m, c, by simp [putBE9, h], by simpa [putBB9, h] using hB, hb⟩

/-- the counts as they are copied -/
def allP (l : List Int) (k : Nat) : List Int := l.take k ++ List.replicate (960 - k) 0
theorem allP_length {l : List Int} {k : Nat} (hk : k ≤ l.length) (h : l.length ≤ 960) : (allP l k).length = 960 := by
  simp only [allP, List.length_append, List.length_take, List.length_replicate]; omega
theorem allP_step {l : List Int} {k : Nat} (hk : k < l.length) (h : l.length ≤ 960) : (allP l k).set k l[k] = allP l (k + 1) := by
  have e1 : 960 - k = (960 - (k + 1)) + 1 := by omega
  have hl : (l.take k).length = k := by rw [List.length_take]; omega
  rw [allP, List.set_append_right _ _ (by omega), hl, Nat.sub_self, allP, List.take_succ_eq_append_getElem hk, e1, List.replicate_succ, List.append_assoc]
  rfl
/-- a count behind them is 0 -/
theorem allP_at {l : List Int} (h : okB9 l = true) {j : Nat} (hj : j < (allP l l.length).length) : (allP l l.length)[j] = (cntB l j : Int) := by
  obtain ⟨h1, h2⟩ := okB9_iff.1 h
  simp only [allP, List.take_length]
  by_cases hl : j < l.length
  · rw [List.getElem_append_left hl, cntB_in hl]
    have := h2 _ (List.getElem_mem hl)
    omega
  · rw [List.getElem_append_right (by omega), List.getElem_replicate, cntB_out (by omega)]
    rfl

/-- the bytes as they grow -/
def rowP (l : List Int) (j : Nat) : List UInt8 := encN 4 l.length ++ (List.range j).map fun i => UInt8.ofNat (fourB l i)
theorem rowP_all (l : List Int) : rowP l 240 = encBits l := rfl
theorem rowP_step (l : List Int) (j : Nat) : rowP l (j + 1) = rowP l j ++ [UInt8.ofNat (fourB l j)] := by
  simp [rowP, List.range_succ]

set_option maxRecDepth 100000 in
set_option maxHeartbeats 400000 in
theorem refPut_long9 (A : Option Addr) (n c : Nat) (l : List Int) (w : World) (h : Ints w A n c l) (hn : 960 < n) :
    Calls Tryz.prog 101 #[.slice A n c] w (PutP9 l w) := by
  have hle := h.le
  have hb : okB9 l = false := by
    cases e : okB9 l with
    | false => rfl
    | true => have := (okB9_iff.1 e).1; have := h.len; omega
  have E := Lib.hid (PutP9.bad hb (Below.refl w.heap.size w))
  clear h hb
  go_enter Tryz.func101, Tryz.ntmps101
  go_wp2
  go_ret2
  exact E.out

set_option maxRecDepth 100000 in
set_option maxHeartbeats 3200000 in
theorem refPut_short9 (A : Option Addr) (n c : Nat) (l : List Int) (w : World) (h : Ints w A n c l) (hn : n ≤ 960) :
    Calls Tryz.prog 101 #[.slice A n c] w (PutP9 l w) := by
  have hl := h.len
  obtain ⟨i0, hi0, hz0, hz1, hz2⟩ := info_parts info_i64
  have HC : Hid (∀ k (hk : k < n) (hkl : k < l.length), ∃ b off, A = some ⟨b, off, none⟩ ∧ b < w.heap.size ∧ w.cell? ⟨b, off + k, none⟩ = some (.int .i64 l[k])) := by
    intro k hk hkl
    obtain ⟨b, off, rfl, hb, hcell⟩ := h.row.lit (by rw [i64s_length]; omega)
    exact ⟨b, off, rfl, hb, hcell k _ (i64s_at l k hkl)⟩
  have HL := Lib.hid hl
  have h960 : Hid (l.length ≤ 960) := (by omega : l.length ≤ 960)
  have BY : Hid (∀ W : World, Calls Tryz.prog 113 #[.int .i64 (n : Int), .int .i64 4] W fun e w' => ∃ v', e = .returned v' ∧ w'.ownsRow W.heap.size 5 1 v' 4 (u8s (rowP l 0)) ∧ Below W.heap.size W w') := fun W =>
    (Bytes_any n 4 W (by omega) (by omega)).mono fun e w' ⟨v', h1, h2, h3⟩ => ⟨v', h1, by rw [rowP, hl]; simpa using h2, h3⟩
  clear h hl
  go_enter Tryz.func101, Tryz.ntmps101
  go_wp2_with (at_make; refine wpList_make_full w rfl (.const (.int .i64 960)) (.const (.int .i64 960)) _ rfl w.heap.size 3 i0 _ 1 Tryz.underlying34 hi0 hz0 hz1 .i64 .i64 _ _ 960 rfl rfl rfl rfl (by rw [hz2]; omega) (by simp only [maxLen]; omega) (Nat.le_refl _) ?_; intro w1 hown1 hg1; have hb1 := below_of_grown hg1 (by simp); have HO1 := Lib.hid (own_zerosI hown1 (Nat.le_refl _)); clear hown1)
  have HO2 : Hid (OwnI w1 w.heap.size w.heap.size (allP l 0)) := by rw [allP, List.take_zero, List.nil_append]; exact HO1.out
  have HB1 := Lib.hid hb1
  clear HO1 hb1 hg1 hi0 hz0 hz1 hz2
  go_loopw [5] (fun i wr => ∃ k : Nat, k ≤ n ∧ i = .int .i64 k ∧ Hid (OwnI wr w.heap.size w.heap.size (allP l k)) ∧ Hid (∀ q (hq : q < l.length), q < k → 0 ≤ l[q] ∧ l[q] ≤ 3) ∧ Hid (Below w.heap.size w wr)) (fun i _ => n - (intOf i).toNat)
  case atStart => exact ⟨0, by omega, rfl, HO2, fun q _ hq => by omega, HB1⟩
  case round =>
    clear HO2 HB1
    obtain ⟨k, hk, rfl, hO, hT, hbel⟩ := hrel
    by_cases hlt : k < n
    · have hkl : k < l.length := by have := HL.out; omega
      obtain ⟨b, off, rfl, hb, hc0⟩ := HC.out k hlt hkl
      have hc1 : wr.cell? ⟨b, off + k, none⟩ = some (.int .i64 l[k]) := (hbel.out.cell (p := ⟨b, off + k, none⟩) hb).trans hc0
      have hbl := allP_length (l := l) (k := k) (by omega) h960.out
      have hc2 := hO.out.cell (j := k) (by omega)
      have hf2 := hO.out.free k
      have HS := Lib.hid (allP_step hkl h960.out)
      have HT := Lib.hid (hO.out.set k l[k])
      have bad : Hid (¬ (0 ≤ l[k] ∧ l[k] ≤ 3) → okB9 l = false) := fun hb => by
        cases e : okB9 l with
        | false => rfl
        | true => exact absurd ((okB9_iff.1 e).2 _ (List.getElem_mem hkl)) hb
      have good : Hid (0 ≤ l[k] ∧ l[k] ≤ 3 → ∀ q (hq : q < l.length), q < k + 1 → 0 ≤ l[q] ∧ l[q] ≤ 3) := fun hg q hq hqk => by
        by_cases e : q = k
        · subst e; exact hg
        · exact hT.out q hq (by omega)
      generalize (allP l k)[k] = old at *
      clear hbl hc0
      generalize l[k] = x at *
      by_cases h0 : x < 0
      · have E := Lib.hid (PutP9.bad (bad.out (by omega)) hbel.out)
        have hd : decide (x < 0) = true := decide_eq_true h0
        go_wp2
        go_ret2
        exact E.out
      · have hd : decide (x < 0) = false := decide_eq_false h0
        by_cases h3 : 3 < x
        · have E := Lib.hid (PutP9.bad (bad.out (by omega)) hbel.out)
          go_wp2
          go_ret2
          exact E.out
        · go_wp2
          go_roundw
          case rel => exact ⟨k + 1, by omega, by go_num, by have := HT.out; rw [HS.out] at this; exact this, good.out (by omega), hbel.out.setCell (Nat.le_refl _) _⟩
          case measure => simp [intOf]; omega
    · obtain rfl : k = n := by omega
      have HOK : Hid (okB9 l = true) := okB9_iff.2 ⟨h960.out, fun x hx => by
        obtain ⟨q, hq, rfl⟩ := List.mem_iff_getElem.1 hx
        exact hT.out q hq (by have := HL.out; omega)⟩
      have HO3 : Hid (OwnI wr w.heap.size w.heap.size (allP l l.length)) := by have := hO.out; rw [HL.out]; exact this
      clear hT hO
      go_wp2_with (go_at_call 113; (with_reducible refine (BY.out _).mono ?_); rintro e w3 ⟨v3, rfl, hown3, hb3⟩; have HOwn3 := Lib.hid hown3; clear hown3)
      have HB3 : Hid (Below w.heap.size w w3) := hbel.out.trans (hb3.mono hbel.out.size)
      have HO4 := Lib.hid (HO3.out.later hb3)
      have hlow : w.heap.size < wr.heap.size := HO3.out.lt
      have hsz := hb3.size
      clear hb3 hbel HO3 BY HC hk hlt
      generalize wr.heap.size = B3 at *
      go_loopw [6, 7] (fun v i wx => ∃ j p : Nat, j ≤ 240 ∧ p ≤ 960 ∧ Hid (p = 4 * j) ∧ i = .int .i64 p ∧ Hid (wx.ownsRow B3 5 1 v (4 + j) (u8s (rowP l j))) ∧ B3 ≤ wx.heap.size ∧ Hid (Below B3 w3 wx)) (fun _ i _ => 960 - (intOf i).toNat)
      case atStart => exact ⟨0, 0, by omega, by omega, rfl, rfl, HOwn3.out, hsz, Below.refl _ _⟩
      case round =>
        clear HOwn3 hsz
        obtain ⟨j, p, hj, hp, hpj, rfl, hown, hs, hbx⟩ := hrel
        by_cases hlt : p < 960
        · have hj2 : j < 240 := by have := hpj.out; omega
          have hall := allP_length (l := l) (k := l.length) (Nat.le_refl _) h960.out
          have h0 := cntB_le HOK.out p
          have h1 := cntB_le HOK.out (p + 1)
          have h2 := cntB_le HOK.out (p + 2)
          have h3 := cntB_le HOK.out (p + 3)
          have HV : Hid (cntB l p + 4 * cntB l (p + 1) + 16 * cntB l (p + 2) + 64 * cntB l (p + 3) = fourB l j) := by rw [fourB, hpj.out]; rfl
          have HX : Hid (∀ W, Below B3 w3 W → W.cell? ⟨w.heap.size, p, none⟩ = some (.int .i64 (cntB l p : Int)) ∧ W.cell? ⟨w.heap.size, p + 1, none⟩ = some (.int .i64 (cntB l (p + 1) : Int)) ∧ W.cell? ⟨w.heap.size, p + 2, none⟩ = some (.int .i64 (cntB l (p + 2) : Int)) ∧ W.cell? ⟨w.heap.size, p + 3, none⟩ = some (.int .i64 (cntB l (p + 3) : Int))) := fun W hW => by
            have HX := HO4.out.below hW hlow
            have hc0 := HX.cell (j := p) (by omega)
            have hc1 := HX.cell (j := p + 1) (by have := hpj.out; omega)
            have hc2 := HX.cell (j := p + 2) (by have := hpj.out; omega)
            have hc3 := HX.cell (j := p + 3) (by have := hpj.out; omega)
            rw [allP_at HOK.out] at hc0 hc1 hc2 hc3
            exact ⟨hc0, hc1, hc2, hc3⟩
          clear hall
          generalize cntB l p = x0 at *
          generalize cntB l (p + 1) = x1 at *
          generalize cntB l (p + 2) = x2 at *
          generalize cntB l (p + 3) = x3 at *
          obtain ⟨v, hv⟩ : ∃ v : Nat, v = x0 + 4 * x1 + 16 * x2 + 64 * x3 := ⟨_, rfl⟩
          have hvb : v ≤ 255 := by omega
          have i1 : IntKind.i64.wrap ((p : Int) + 1) = (p : Int) + 1 := IntWalk.i64_in _ (by omega)
          have i2 : IntKind.i64.wrap ((p : Int) + 2) = (p : Int) + 2 := IntWalk.i64_in _ (by omega)
          have i3 : IntKind.i64.wrap ((p : Int) + 3) = (p : Int) + 3 := IntWalk.i64_in _ (by omega)
          have p1 : (0 : Int) ≤ (p : Int) + 1 := by omega
          have p2 : (0 : Int) ≤ (p : Int) + 2 := by omega
          have p3 : (0 : Int) ≤ (p : Int) + 3 := by omega
          have t1 : ((p : Int) + 1).toNat = p + 1 := by omega
          have t2 : ((p : Int) + 2).toNat = p + 2 := by omega
          have t3 : ((p : Int) + 3).toNat = p + 3 := by omega
          have q3 : p + 3 < 960 := by have := hpj.out; omega
          have l1 : (p : Int) + 1 < 960 := by omega
          have l2 : (p : Int) + 2 < 960 := by omega
          have l3 : (p : Int) + 3 < 960 := by omega
          have m1 : IntKind.i64.wrap (4 * (x1 : Int)) = 4 * (x1 : Int) := IntWalk.i64_in _ (by omega)
          have m2 : IntKind.i64.wrap (16 * (x2 : Int)) = 16 * (x2 : Int) := IntWalk.i64_in _ (by omega)
          have m3 : IntKind.i64.wrap (64 * (x3 : Int)) = 64 * (x3 : Int) := IntWalk.i64_in _ (by omega)
          have s1 : IntKind.i64.wrap ((x0 : Int) + 4 * (x1 : Int)) = (x0 : Int) + 4 * (x1 : Int) := IntWalk.i64_in _ (by omega)
          have s2 : IntKind.i64.wrap ((x0 : Int) + 4 * (x1 : Int) + 16 * (x2 : Int)) = (x0 : Int) + 4 * (x1 : Int) + 16 * (x2 : Int) := IntWalk.i64_in _ (by omega)
          have s3 : IntKind.i64.wrap ((x0 : Int) + 4 * (x1 : Int) + 16 * (x2 : Int) + 64 * (x3 : Int)) = (v : Int) := by rw [IntWalk.i64_in _ (by omega)]; omega
          have s4 : IntKind.u8.wrap (v : Int) = (v : Int) := by rw [IntKind.wrap_u8]; omega
          have HVV := Lib.hid hv
          clear hv
          go_wp2
          have HV5 : Hid (u8s (rowP l j) ++ [.int .u8 (v : Int)] = u8s (rowP l (j + 1))) := by
            have e : v = fourB l j := by rw [← HV.out]; exact HVV.out
            rw [rowP_step, u8s_append, ← e]
            simp only [u8s, List.map_cons, List.map_nil]
            rw [UInt8.toNat_ofNat', Nat.mod_eq_of_lt (by omega)]
            rfl
          have hS0 := HX.out _ hbx.out
          have hS1 := HX.out _ (hbx.out.alloc hs (.cells #[.int .u8 (v : Int)] 5))
          have hnew := Row.of_block (heap_alloc_new wr (.cells #[.int .u8 (v : Int)] 5))
          have HNew := Lib.hid hnew
          clear hnew
          go_region_held3 (fun W => W.cell? ⟨w.heap.size, p, none⟩ = some (.int .i64 (x0 : Int)) ∧ W.cell? ⟨w.heap.size, p + 1, none⟩ = some (.int .i64 (x1 : Int)) ∧ W.cell? ⟨w.heap.size, p + 2, none⟩ = some (.int .i64 (x2 : Int)) ∧ W.cell? ⟨w.heap.size, p + 3, none⟩ = some (.int .i64 (x3 : Int)))
            (first | assumption | go_keep)
            ((refine step_append_rowG _ rfl (.tmp 44) (.tmp 71) 22 rfl B3 5 1 _ 1 Tryz.underlying22 info_u8 rfl (by omega) u6 (4 + j) _ rfl ((hown.out.alloc _).drew) (by simp; omega) ⟨wr.heap.size, 0, none⟩ [.int .u8 (v : Int)] 1 1 rfl rfl HNew.out (by simp [Value.oneCell']) (by omega) (by omega) ?_; intro v6 w6 hown6 hg6; have hb6 : Below B3 w3 w6 := ((hbx.out.alloc hs _).drew).grown hg6.out (by simp; omega) (fun k hk => (own_apartS hown.out k hk).1); have hS6 := HX.out _ hb6))
          clear i1 i2 i3 p1 p2 p3 t1 t2 t3 l1 l2 l3 m1 m2 m3 s1 s2 s3 s4 hS0 hS1 hS6
          go_wp2
          go_roundw
          case rel => exact ⟨j + 1, p + 4, by omega, by omega, by have := hpj.out; show _ = _; omega, by go_num, by have := hown6.out; rw [HV5.out] at this; exact this, by have := hg6.out.size; simp at this; omega, hb6⟩
          case measure => simp [intOf]; omega
        · obtain rfl : p = 960 := by omega
          obtain rfl : j = 240 := by have := hpj.out; omega
          have ho := hown.out
          rw [rowP_all] at ho
          obtain ⟨A', c', rfl, hB⟩ := Bytes8.of_own ho
          have E := Lib.hid (PutP9.good HOK.out hB (HB3.out.trans (hbx.out.mono (by omega))))
          go_wp2
          go_ret2
          exact E.out

theorem refPut_any9 (A : Option Addr) (n c : Nat) (l : List Int) (w : World) (h : Ints w A n c l) :
    Calls Tryz.prog 101 #[.slice A n c] w fun e w' => ∃ A' m c', e = .returned (.tuple #[.slice A' m c', .int .i64 (putBE9 l)]) ∧ Bytes8 w' A' m c' (putBB9 l) ∧ Below w.heap.size w w' := by
  by_cases hn : n ≤ 960
  · exact refPut_short9 A n c l w h hn
  · exact refPut_long9 A n c l w h (by omega)

end Go.Proofs.YtbeobbanppkmhaaGreatDoor

/-
  Layer 9: the reference's Read.
-/
namespace Go.Proofs.YtbeobbanppkmhaaGreatDoor
open Go.RowKit
set_option linter.unusedVariables false
set_option linter.unusedSimpArgs false

/-- the same, and what it hands back is newer than all that stood -/
def RdF9 (l : List UInt8) (w : World) (e : Ending) (w' : World) : Prop := ∃ A' m c', e = .returned (.tuple #[.slice A' m c', .int .i64 (readBE9 l)]) ∧ Ints w' A' m c' (readBL9 l) ∧ Below w.heap.size w w' ∧ Newer w.heap.size A'
theorem RdF9.bad {l : List UInt8} {w w' : World} (h : ¬ (l.length = 244 ∧ numB l ≤ 960 ∧ encBits (readBits l) = l)) (hb : Below w.heap.size w w') : RdF9 l w (.returned (.tuple #[.slice none 0 0, .int .i64 7])) w' := by
  rcases readBE9_cases l with ⟨e0, e1, h1⟩ | ⟨e0, e1, h1⟩
  · exact absurd h1 h
  · exact ⟨none, 0, 0, by rw [e0], by rw [e1]; exact Ints.nil _, hb, Newer.nil _⟩
theorem RdF9.good {l : List UInt8} {w w' : World} {A : Option Addr} {m c : Nat} (h : l.length = 244 ∧ numB l ≤ 960 ∧ encBits (readBits l) = l) (hI : Ints w' A m c (readBits l)) (hb : Below w.heap.size w w') (hn : Newer w.heap.size A) : RdF9 l w (.returned (.tuple #[.slice A m c, .int .i64 0])) w' := by
  rcases readBE9_cases l with ⟨e0, e1, h1⟩ | ⟨e0, e1, h1⟩
  · exact ⟨A, m, c, by rw [e0], by rw [e1]; exact hI, hb, hn⟩
  · exact absurd h h1

theorem bit_ne {s s2 : ByteArray} (h : ¬ s = s2) : (s.toList == s2.toList) = false := by
  rw [beq_eq_false_iff_ne]
  intro e
  apply h
  rw [ByteArray.toList_eq, ByteArray.toList_eq] at e
  cases s; cases s2
  congr
  exact Array.toList_inj.1 e

set_option maxRecDepth 100000 in
set_option maxHeartbeats 800000 in
theorem refRead_bad9 (A : Option Addr) (n c : Nat) (l : List UInt8) (w : World) (h : Bytes8 w A n c l) (hb : ¬ (n = 244 ∧ numB l ≤ 960)) :
    Calls Tryz.prog 48 #[.slice A n c] w (RdF9 l w) := by
  have hn := h.le
  have hl := h.len
  have E := Lib.hid (RdF9.bad (l := l) (w := w) (fun hh => hb ⟨hl.symm.trans hh.1, hh.2.1⟩) (Below.refl _ _))
  by_cases h2 : n = 244
  · subst h2
    have G := Lib.hid (refGet_any A 244 c l 0 4 w h (by omega))
    obtain ⟨e1, e2⟩ := bits_get (l := l) (by omega)
    rw [e1, e2] at G
    have h9 : ¬ numB l ≤ 960 := fun hh => hb ⟨rfl, hh⟩
    clear h hl e1 e2 hb
    generalize numB l = N at *
    go_enter Tryz.func48, Tryz.ntmps48
    go_wp2_with (go_at_call 98; (with_reducible refine (G.out).mono ?_); rintro e w' ⟨rfl, rfl⟩)
    go_ret2
    exact E.out
  · have hne : ((n : Int) != 244) = true := by simp; omega
    clear h hl hb
    go_enter Tryz.func48, Tryz.ntmps48
    go_wp2
    go_ret2
    exact E.out

set_option maxRecDepth 100000 in
set_option maxHeartbeats 3200000 in
theorem refRead_good9 (A : Option Addr) (c : Nat) (l : List UInt8) (w : World) (h : Bytes8 w A 244 c l) (h9 : numB l ≤ 960) :
    Calls Tryz.prog 48 #[.slice A 244 c] w (RdF9 l w) := by
  have hl := h.len
  have G := Lib.hid (refGet_any A 244 c l 0 4 w h (by omega))
  obtain ⟨e1, e2⟩ := bits_get (l := l) (by omega)
  rw [e1, e2] at G
  obtain ⟨b, off, rfl, hb, hcell⟩ := h.row.lit (by rw [u8s_length]; omega)
  have HC := Lib.hid hcell
  have HL := Lib.hid hl
  have HB := Lib.hid h
  have hcc := h.cap
  have HOK := Lib.hid (readBits_ok (b := l) h9)
  have HRL : Hid ((List.range (numB l)).map (fun i => (digB l i : Int)) = readBits l) := rfl
  have H9 := Lib.hid h9
  clear h hcell hl e1 e2
  generalize hN : numB l = N at *
  have HN := Lib.hid hN
  clear hN
  go_enter Tryz.func48, Tryz.ntmps48
  go_wp2_with (go_at_call 98; (with_reducible refine (G.out).mono ?_); rintro e w' ⟨rfl, rfl⟩)
  go_loopw [6, 7] (fun v i wr => ∃ k : Nat, k ≤ N ∧ i = .int .i64 k ∧ Hid (wr.ownsRow w.heap.size 3 1 v k (i64s ((List.range k).map fun m => (digB l m : Int)))) ∧ w.heap.size ≤ wr.heap.size ∧ Hid (Below w.heap.size w wr)) (fun _ i _ => N - (intOf i).toNat)
  case atStart => exact ⟨0, by omega, rfl, World.ownsRow_nil _ _ _ _, Nat.le_refl _, Below.refl _ _⟩
  case round =>
    obtain ⟨k, hk, rfl, hown, hs, hbel⟩ := hrel
    by_cases hlt : k < N
    · have hj : 4 + k / 4 < l.length := by have := HL.out; omega
      have hc1 : wr.cell? ⟨b, off + (4 + k / 4), none⟩ = some (.int .u8 (l[4 + k / 4].toNat : Int)) := (hbel.out.cell (p := ⟨b, off + (4 + k / 4), none⟩) hb).trans (HC.out _ _ (u8s_at l _ hj))
      have HD : Hid (digB l k = l[4 + k / 4].toNat / 4 ^ (k % 4) % 4) := by
        rw [digB, List.getD_eq_getElem?_getD, List.getElem?_eq_getElem hj, Option.getD_some]
        rfl
      have hxb : l[4 + k / 4].toNat ≤ 255 := by have := UInt8.toNat_lt l[4 + k / 4]; omega
      generalize l[4 + k / 4].toNat = X at *
      clear hj
      go_wp2
      go_loop [8, 9] (fun x q => ∃ j y : Nat, j ≤ k % 4 ∧ y ≤ 255 ∧ q = .int .i64 j ∧ x = .int .i64 y ∧ Hid (y = X / 4 ^ j)) (fun _ q => 4 - (intOf q).toNat)
      case atStart => exact ⟨0, X, by omega, by omega, rfl, rfl, by show _ = _; simp⟩
      case round =>
        obtain ⟨j, y, hj, hy, rfl, rfl, HY⟩ := hrel
        by_cases hlt2 : j < k % 4
        · have hd : decide ((j : Int) < (k : Int) % 4) = true := by simp; omega
          go_wp2
          go_round
          case rel => exact ⟨j + 1, y / 4, by omega, by omega, by go_num, rfl, by show _ = _; rw [HY.out, Nat.pow_succ, Nat.div_div_eq_div_mul]⟩
          case measure => simp [intOf]; omega
        · have HE : Hid (digB l k = y % 4) := by
            have e : j = k % 4 := by omega
            rw [HD.out, HY.out, e]; rfl
          have hd : decide ((j : Int) < (k : Int) % 4) = false := by simp; omega
          clear HD
          go_wp2_with (at_builtin; go_must (refine wpList_append_new wr rfl (.tmp 42) (.tmp 45) 34 rfl w.heap.size 3 3 (.int .i64 0) 8 Tryz.underlying34 info_i64 rfl u6 k _ rfl hown hs [.int .i64 ((y : Int) % 4)] 1 1 rfl rfl (by simp [Value.oneCell']) (by omega) (by omega) ?_); intro v2 w2 hown2 hs2 hb2)
          go_roundw
          case rel =>
            refine ⟨k + 1, by omega, by go_num, ?_, hs2, hbel.out.trans hb2⟩
            have := hown2.out
            rw [show i64s ((List.range (k + 1)).map fun m => (digB l m : Int)) = i64s ((List.range k).map fun m => (digB l m : Int)) ++ [.int .i64 ((y : Int) % 4)] by rw [List.range_succ, List.map_append, i64s_append, List.map_singleton, HE.out]; rfl]
            exact this
          case measure => simp [intOf]; omega
    · obtain rfl : k = N := by omega
      have ho := hown.out
      rw [show (List.range k).map (fun m => (digB l m : Int)) = readBits l from HRL.out] at ho
      obtain ⟨A', c', rfl, hI⟩ := Ints.of_own ho
      have HNW := Lib.hid (Newer.of_own ho)
      have hI1 := Lib.hid hI
      have P := Lib.hid (refPut_any9 A' k c' _ wr hI)
      have ePE : putBE9 (readBits l) = 0 := by rw [putBE9, if_pos HOK.out]
      have ePB : putBB9 (readBits l) = encBits (readBits l) := by rw [putBB9, if_pos HOK.out]
      rw [ePE, ePB] at P
      clear hown ho hI ePE ePB hk hlt
      by_cases he : encBits (readBits l) = l
      · have GD : Hid (∀ W, Below wr.heap.size wr W → RdF9 l w (.returned (.tuple #[.slice A' k c', .int .i64 0])) W) := fun W hW => RdF9.good ⟨HL.out, by rw [HN.out]; exact H9.out, he⟩ (hI1.out.below hW) (hbel.out.trans (hW.mono hs)) HNW.out
        rw [he] at P
        clear he
        go_wp2_with (go_at_call 101; (with_reducible refine (P.out).mono ?_); rintro e w3 ⟨A3, m3, c3, rfl, hB3, hb3⟩; have cv1 := run_str hB3; have cv2 := run_str (HB.out.below (hbel.out.trans (hb3.mono hs))))
        go_ret2
        exact GD.out _ hb3
      · have GB : Hid (∀ W, Below wr.heap.size wr W → RdF9 l w (.returned (.tuple #[.slice none 0 0, .int .i64 7])) W) := fun W hW => RdF9.bad (fun hh => he hh.2.2) (hbel.out.trans (hW.mono hs))
        have hne : ¬ ((⟨(encBits (readBits l)).toArray⟩ : ByteArray) = ⟨l.toArray⟩) := fun h => he (by injection h with h; have := congrArg Array.toList h; simpa using this)
        have hne2 := bit_ne hne
        have hne3 : (!(⟨(encBits (readBits l)).toArray⟩ : ByteArray).toList == (⟨l.toArray⟩ : ByteArray).toList) = true := by rw [hne2]; rfl
        have CV : Hid (∀ A3 m3 c3 W, Bytes8 W A3 m3 c3 (encBits (readBits l)) → (convert 22 9 (.slice A3 m3 c3)).run Tryz.prog W = .ok (.string ⟨(encBits (readBits l)).toArray⟩) W) := fun A3 m3 c3 W hB => run_str hB
        have CV2 : Hid (∀ W, Below w.heap.size w W → (convert 22 9 (.slice (some ⟨b, off, none⟩) 244 c)).run Tryz.prog W = .ok (.string ⟨l.toArray⟩) W) := fun W hW => run_str (HB.out.below hW)
        clear he hne
        generalize encBits (readBits l) = bb at *
        generalize (⟨bb.toArray⟩ : ByteArray) = z1 at *
        generalize (⟨l.toArray⟩ : ByteArray) = z2 at *
        go_wp2_with (go_at_call 101; (with_reducible refine (P.out).mono ?_); rintro e w3 ⟨A3, m3, c3, rfl, hB3, hb3⟩; have cv1 := CV.out _ _ _ _ hB3; have cv2 := CV2.out _ (hbel.out.trans (hb3.mono hs)); clear hB3)
        go_ret2
        exact GB.out _ hb3

theorem refRead_any9F (A : Option Addr) (n c : Nat) (l : List UInt8) (w : World) (h : Bytes8 w A n c l) :
    Calls Tryz.prog 48 #[.slice A n c] w (RdF9 l w) := by
  by_cases hb : n = 244 ∧ numB l ≤ 960
  · obtain ⟨rfl, h9⟩ := hb
    exact refRead_good9 A c l w h h9
  · exact refRead_bad9 A n c l w h hb

end Go.Proofs.YtbeobbanppkmhaaGreatDoor
