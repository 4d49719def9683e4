/-
  Layer 9: the reference's Put.
-/
import Derived.Test.YtdejggdnpnofeaaBitMath
import Derived.Test.YtdejggdnpnofeaaMemL
import Derived.Test.YtdejggdnpnofeaaMemG
import Derived.Test.YtdejggdnpnofeaaCodeE
import Derived.Deep.RegionHeld3
import Derived.Deep.AppendLies
import Derived.IntWalk
namespace Go.Proofs.Ytdejggdnpnofeaa
open Go.RowKit
set_option linter.unusedVariables false
set_option linter.unusedSimpArgs false

/-- what a Put answers -/
def PutP9 (l : List Int) (w : World) (e : Ending) (w' : World) : Prop := ∃ A' m c', e = .returned (.tuple #[.slice A' m c', .int .i64 (putBE9 l)]) ∧ Bytes8 w' A' m c' (putBB9 l) ∧ Below w.heap.size w w'
theorem PutP9.bad {l : List Int} {w w' : World} (h : okB9 l = false) (hb : Below w.heap.size w w') : PutP9 l w (.returned (.tuple #[.slice none 0 0, .int .i64 1])) w' :=
  ⟨none, 0, 0, by simp [putBE9, h], by simpa [putBB9, h] using Bytes8.nil w', hb⟩
theorem PutP9.good {l : List Int} {w w' : World} {A : Option Addr} {m c : Nat} (h : okB9 l = true) (hB : Bytes8 w' A m c (encBits l)) (hb : Below w.heap.size w w') : PutP9 l w (.returned (.tuple #[.slice A m c, .int .i64 0])) w' :=
  ⟨A, m, c, by simp [putBE9, h], by simpa [putBB9, h] using hB, hb⟩

/-- the counts as they are copied -/
def allP (l : List Int) (k : Nat) : List Int := l.take k ++ List.replicate (960 - k) 0
theorem allP_length {l : List Int} {k : Nat} (hk : k ≤ l.length) (h : l.length ≤ 960) : (allP l k).length = 960 := by
  simp only [allP, List.length_append, List.length_take, List.length_replicate]; omega
theorem allP_step {l : List Int} {k : Nat} (hk : k < l.length) (h : l.length ≤ 960) : (allP l k).set k l[k] = allP l (k + 1) := by
  have e1 : 960 - k = (960 - (k + 1)) + 1 := by omega
  have hl : (l.take k).length = k := by rw [List.length_take]; omega
  rw [allP, List.set_append_right _ _ (by omega), hl, Nat.sub_self, allP, List.take_succ_eq_append_getElem hk, e1, List.replicate_succ, List.append_assoc]
  rfl
/-- a count behind them is 0 -/
theorem allP_at {l : List Int} (h : okB9 l = true) {j : Nat} (hj : j < (allP l l.length).length) : (allP l l.length)[j] = (cntB l j : Int) := by
  obtain ⟨h1, h2⟩ := okB9_iff.1 h
  simp only [allP, List.take_length]
  by_cases hl : j < l.length
  · rw [List.getElem_append_left hl, cntB_in hl]
    have := h2 _ (List.getElem_mem hl)
    omega
  · rw [List.getElem_append_right (by omega), List.getElem_replicate, cntB_out (by omega)]
    rfl

/-- the bytes as they grow -/
def rowP (l : List Int) (j : Nat) : List UInt8 := encN 4 l.length ++ (List.range j).map fun i => UInt8.ofNat (fourB l i)
theorem rowP_all (l : List Int) : rowP l 240 = encBits l := rfl
theorem rowP_step (l : List Int) (j : Nat) : rowP l (j + 1) = rowP l j ++ [UInt8.ofNat (fourB l j)] := by
  simp [rowP, List.range_succ]

set_option maxHeartbeats 400000 in
theorem refPut_long9 (A : Option Addr) (n c : Nat) (l : List Int) (w : World) (h : Ints w A n c l) (hn : 960 < n) :
    Calls Try.prog 8 #[.slice A n c] w (PutP9 l w) := by
  have hle := h.le
  have hb : okB9 l = false := by
    cases e : okB9 l with
    | false => rfl
    | true => have := (okB9_iff.1 e).1; have := h.len; omega
  have E := Lib.hid (PutP9.bad hb (Below.refl w.heap.size w))
  clear h hb
  go_enter Try.func8, Try.ntmps8
  go_wp2
  go_ret2
  exact E.out

set_option maxRecDepth 100000 in
set_option maxHeartbeats 3200000 in
theorem refPut_short9 (A : Option Addr) (n c : Nat) (l : List Int) (w : World) (h : Ints w A n c l) (hn : n ≤ 960) :
    Calls Try.prog 8 #[.slice A n c] w (PutP9 l w) := by
  have hl := h.len
  obtain ⟨i0, hi0, hz0, hz1, hz2⟩ := info_parts info_i64
  have HC : Hid (∀ k (hk : k < n) (hkl : k < l.length), ∃ b off, A = some ⟨b, off, none⟩ ∧ b < w.heap.size ∧ w.cell? ⟨b, off + k, none⟩ = some (.int .i64 l[k])) := by
    intro k hk hkl
    obtain ⟨b, off, rfl, hb, hcell⟩ := h.row.lit (by rw [i64s_length]; omega)
    exact ⟨b, off, rfl, hb, hcell k _ (i64s_at l k hkl)⟩
  have HL := Lib.hid hl
  have h960 : Hid (l.length ≤ 960) := (by omega : l.length ≤ 960)
  have BY : Hid (∀ W : World, Calls Try.prog 17 #[.int .i64 (n : Int), .int .i64 4] W fun e w' => ∃ v', e = .returned v' ∧ w'.ownsRow W.heap.size 5 1 v' 4 (u8s (rowP l 0)) ∧ Below W.heap.size W w') := fun W =>
    (Bytes_any n 4 W (by omega) (by omega)).mono fun e w' ⟨v', h1, h2, h3⟩ => ⟨v', h1, by rw [rowP, hl]; simpa using h2, h3⟩
  clear h hl
  go_enter Try.func8, Try.ntmps8
  go_wp2_with (at_make; refine wpList_make_full w rfl (.const (.int .i64 960)) (.const (.int .i64 960)) _ rfl w.heap.size 3 i0 _ 1 Try.underlying22 hi0 hz0 hz1 .i64 .i64 _ _ 960 rfl rfl rfl rfl (by rw [hz2]; omega) (by simp only [maxLen]; omega) (Nat.le_refl _) ?_; intro w1 hown1 hg1; have hb1 := below_of_grown hg1 (by simp); have HO1 := Lib.hid (own_zerosI hown1 (Nat.le_refl _)); clear hown1)
  have HO2 : Hid (OwnI w1 w.heap.size w.heap.size (allP l 0)) := by rw [allP, List.take_zero, List.nil_append]; exact HO1.out
  have HB1 := Lib.hid hb1
  clear HO1 hb1 hg1 hi0 hz0 hz1 hz2
  go_loopw [5] (fun i wr => ∃ k : Nat, k ≤ n ∧ i = .int .i64 k ∧ Hid (OwnI wr w.heap.size w.heap.size (allP l k)) ∧ Hid (∀ q (hq : q < l.length), q < k → 0 ≤ l[q] ∧ l[q] ≤ 3) ∧ Hid (Below w.heap.size w wr)) (fun i _ => n - (intOf i).toNat)
  case atStart => exact ⟨0, by omega, rfl, HO2, fun q _ hq => by omega, HB1⟩
  case round =>
    clear HO2 HB1
    obtain ⟨k, hk, rfl, hO, hT, hbel⟩ := hrel
    by_cases hlt : k < n
    · have hkl : k < l.length := by have := HL.out; omega
      obtain ⟨b, off, rfl, hb, hc0⟩ := HC.out k hlt hkl
      have hc1 : wr.cell? ⟨b, off + k, none⟩ = some (.int .i64 l[k]) := (hbel.out.cell (p := ⟨b, off + k, none⟩) hb).trans hc0
      have hbl := allP_length (l := l) (k := k) (by omega) h960.out
      have hc2 := hO.out.cell (j := k) (by omega)
      have hf2 := hO.out.free k
      have HS := Lib.hid (allP_step hkl h960.out)
      have HT := Lib.hid (hO.out.set k l[k])
      have bad : Hid (¬ (0 ≤ l[k] ∧ l[k] ≤ 3) → okB9 l = false) := fun hb => by
        cases e : okB9 l with
        | false => rfl
        | true => exact absurd ((okB9_iff.1 e).2 _ (List.getElem_mem hkl)) hb
      have good : Hid (0 ≤ l[k] ∧ l[k] ≤ 3 → ∀ q (hq : q < l.length), q < k + 1 → 0 ≤ l[q] ∧ l[q] ≤ 3) := fun hg q hq hqk => by
        by_cases e : q = k
        · subst e; exact hg
        · exact hT.out q hq (by omega)
      generalize (allP l k)[k] = old at *
      clear hbl hc0
      generalize l[k] = x at *
      by_cases h0 : x < 0
      · have E := Lib.hid (PutP9.bad (bad.out (by omega)) hbel.out)
        have hd : decide (x < 0) = true := decide_eq_true h0
        go_wp2
        go_ret2
        exact E.out
      · have hd : decide (x < 0) = false := decide_eq_false h0
        by_cases h3 : 3 < x
        · have E := Lib.hid (PutP9.bad (bad.out (by omega)) hbel.out)
          go_wp2
          go_ret2
          exact E.out
        · go_wp2
          go_roundw
          case rel => exact ⟨k + 1, by omega, by go_num, by have := HT.out; rw [HS.out] at this; exact this, good.out (by omega), hbel.out.setCell (Nat.le_refl _) _⟩
          case measure => simp [intOf]; omega
    · obtain rfl : k = n := by omega
      have HOK : Hid (okB9 l = true) := okB9_iff.2 ⟨h960.out, fun x hx => by
        obtain ⟨q, hq, rfl⟩ := List.mem_iff_getElem.1 hx
        exact hT.out q hq (by have := HL.out; omega)⟩
      have HO3 : Hid (OwnI wr w.heap.size w.heap.size (allP l l.length)) := by have := hO.out; rw [HL.out]; exact this
      clear hT hO
      go_wp2_with (go_at_call 17; (with_reducible refine (BY.out _).mono ?_); rintro e w3 ⟨v3, rfl, hown3, hb3⟩; have HOwn3 := Lib.hid hown3; clear hown3)
      have HB3 : Hid (Below w.heap.size w w3) := hbel.out.trans (hb3.mono hbel.out.size)
      have HO4 := Lib.hid (HO3.out.later hb3)
      have hlow : w.heap.size < wr.heap.size := HO3.out.lt
      have hsz := hb3.size
      clear hb3 hbel HO3 BY HC hk hlt
      generalize wr.heap.size = B3 at *
      go_loopw [6, 7] (fun v i wx => ∃ j p : Nat, j ≤ 240 ∧ p ≤ 960 ∧ Hid (p = 4 * j) ∧ i = .int .i64 p ∧ Hid (wx.ownsRow B3 5 1 v (4 + j) (u8s (rowP l j))) ∧ B3 ≤ wx.heap.size ∧ Hid (Below B3 w3 wx)) (fun _ i _ => 960 - (intOf i).toNat)
      case atStart => exact ⟨0, 0, by omega, by omega, rfl, rfl, HOwn3.out, hsz, Below.refl _ _⟩
      case round =>
        clear HOwn3 hsz
        obtain ⟨j, p, hj, hp, hpj, rfl, hown, hs, hbx⟩ := hrel
        by_cases hlt : p < 960
        · have hj2 : j < 240 := by have := hpj.out; omega
          have hall := allP_length (l := l) (k := l.length) (Nat.le_refl _) h960.out
          have h0 := cntB_le HOK.out p
          have h1 := cntB_le HOK.out (p + 1)
          have h2 := cntB_le HOK.out (p + 2)
          have h3 := cntB_le HOK.out (p + 3)
          have HV : Hid (cntB l p + 4 * cntB l (p + 1) + 16 * cntB l (p + 2) + 64 * cntB l (p + 3) = fourB l j) := by rw [fourB, hpj.out]; rfl
          have HX : Hid (∀ W, Below B3 w3 W → W.cell? ⟨w.heap.size, p, none⟩ = some (.int .i64 (cntB l p : Int)) ∧ W.cell? ⟨w.heap.size, p + 1, none⟩ = some (.int .i64 (cntB l (p + 1) : Int)) ∧ W.cell? ⟨w.heap.size, p + 2, none⟩ = some (.int .i64 (cntB l (p + 2) : Int)) ∧ W.cell? ⟨w.heap.size, p + 3, none⟩ = some (.int .i64 (cntB l (p + 3) : Int))) := fun W hW => by
            have HX := HO4.out.below hW hlow
            have hc0 := HX.cell (j := p) (by omega)
            have hc1 := HX.cell (j := p + 1) (by have := hpj.out; omega)
            have hc2 := HX.cell (j := p + 2) (by have := hpj.out; omega)
            have hc3 := HX.cell (j := p + 3) (by have := hpj.out; omega)
            rw [allP_at HOK.out] at hc0 hc1 hc2 hc3
            exact ⟨hc0, hc1, hc2, hc3⟩
          clear hall
          generalize cntB l p = x0 at *
          generalize cntB l (p + 1) = x1 at *
          generalize cntB l (p + 2) = x2 at *
          generalize cntB l (p + 3) = x3 at *
          obtain ⟨v, hv⟩ : ∃ v : Nat, v = x0 + 4 * x1 + 16 * x2 + 64 * x3 := ⟨_, rfl⟩
          have hvb : v ≤ 255 := by omega
          have i1 : IntKind.i64.wrap ((p : Int) + 1) = (p : Int) + 1 := IntWalk.i64_in _ (by omega)
          have i2 : IntKind.i64.wrap ((p : Int) + 2) = (p : Int) + 2 := IntWalk.i64_in _ (by omega)
          have i3 : IntKind.i64.wrap ((p : Int) + 3) = (p : Int) + 3 := IntWalk.i64_in _ (by omega)
          have p1 : (0 : Int) ≤ (p : Int) + 1 := by omega
          have p2 : (0 : Int) ≤ (p : Int) + 2 := by omega
          have p3 : (0 : Int) ≤ (p : Int) + 3 := by omega
          have t1 : ((p : Int) + 1).toNat = p + 1 := by omega
          have t2 : ((p : Int) + 2).toNat = p + 2 := by omega
          have t3 : ((p : Int) + 3).toNat = p + 3 := by omega
          have q3 : p + 3 < 960 := by have := hpj.out; omega
          have l1 : (p : Int) + 1 < 960 := by omega
          have l2 : (p : Int) + 2 < 960 := by omega
          have l3 : (p : Int) + 3 < 960 := by omega
          have m1 : IntKind.i64.wrap (4 * (x1 : Int)) = 4 * (x1 : Int) := IntWalk.i64_in _ (by omega)
          have m2 : IntKind.i64.wrap (16 * (x2 : Int)) = 16 * (x2 : Int) := IntWalk.i64_in _ (by omega)
          have m3 : IntKind.i64.wrap (64 * (x3 : Int)) = 64 * (x3 : Int) := IntWalk.i64_in _ (by omega)
          have s1 : IntKind.i64.wrap ((x0 : Int) + 4 * (x1 : Int)) = (x0 : Int) + 4 * (x1 : Int) := IntWalk.i64_in _ (by omega)
          have s2 : IntKind.i64.wrap ((x0 : Int) + 4 * (x1 : Int) + 16 * (x2 : Int)) = (x0 : Int) + 4 * (x1 : Int) + 16 * (x2 : Int) := IntWalk.i64_in _ (by omega)
          have s3 : IntKind.i64.wrap ((x0 : Int) + 4 * (x1 : Int) + 16 * (x2 : Int) + 64 * (x3 : Int)) = (v : Int) := by rw [IntWalk.i64_in _ (by omega)]; omega
          have s4 : IntKind.u8.wrap (v : Int) = (v : Int) := by rw [IntKind.wrap_u8]; omega
          have HVV := Lib.hid hv
          clear hv
          go_wp2
          have HV5 : Hid (u8s (rowP l j) ++ [.int .u8 (v : Int)] = u8s (rowP l (j + 1))) := by
            have e : v = fourB l j := by rw [← HV.out]; exact HVV.out
            rw [rowP_step, u8s_append, ← e]
            simp only [u8s, List.map_cons, List.map_nil]
            rw [UInt8.toNat_ofNat', Nat.mod_eq_of_lt (by omega)]
            rfl
          have hS0 := HX.out _ hbx.out
          have hS1 := HX.out _ (hbx.out.alloc hs (.cells #[.int .u8 (v : Int)] 5))
          have hnew := Row.of_block (heap_alloc_new wr (.cells #[.int .u8 (v : Int)] 5))
          have HNew := Lib.hid hnew
          clear hnew
          go_region_held3 (fun W => W.cell? ⟨w.heap.size, p, none⟩ = some (.int .i64 (x0 : Int)) ∧ W.cell? ⟨w.heap.size, p + 1, none⟩ = some (.int .i64 (x1 : Int)) ∧ W.cell? ⟨w.heap.size, p + 2, none⟩ = some (.int .i64 (x2 : Int)) ∧ W.cell? ⟨w.heap.size, p + 3, none⟩ = some (.int .i64 (x3 : Int)))
            (first | assumption | go_keep)
            ((refine step_append_rowG _ rfl (.tmp 44) (.tmp 71) 24 rfl B3 5 1 _ 1 Try.underlying24 info_u8 rfl (by omega) u6 (4 + j) _ rfl ((hown.out.alloc _).drew) (by simp; omega) ⟨wr.heap.size, 0, none⟩ [.int .u8 (v : Int)] 1 1 rfl rfl HNew.out (by simp [Value.oneCell']) (by omega) (by omega) ?_; intro v6 w6 hown6 hg6; have hb6 : Below B3 w3 w6 := ((hbx.out.alloc hs _).drew).grown hg6.out (by simp; omega) (fun k hk => (own_apartS hown.out k hk).1); have hS6 := HX.out _ hb6))
          clear i1 i2 i3 p1 p2 p3 t1 t2 t3 l1 l2 l3 m1 m2 m3 s1 s2 s3 s4 hS0 hS1 hS6
          go_wp2
          go_roundw
          case rel => exact ⟨j + 1, p + 4, by omega, by omega, by have := hpj.out; show _ = _; omega, by go_num, by have := hown6.out; rw [HV5.out] at this; exact this, by have := hg6.out.size; simp at this; omega, hb6⟩
          case measure => simp [intOf]; omega
        · obtain rfl : p = 960 := by omega
          obtain rfl : j = 240 := by have := hpj.out; omega
          have ho := hown.out
          rw [rowP_all] at ho
          obtain ⟨A', c', rfl, hB⟩ := Bytes8.of_own ho
          have E := Lib.hid (PutP9.good HOK.out hB (HB3.out.trans (hbx.out.mono (by omega))))
          go_wp2
          go_ret2
          exact E.out

theorem refPut_any9 (A : Option Addr) (n c : Nat) (l : List Int) (w : World) (h : Ints w A n c l) :
    Calls Try.prog 8 #[.slice A n c] w fun e w' => ∃ A' m c', e = .returned (.tuple #[.slice A' m c', .int .i64 (putBE9 l)]) ∧ Bytes8 w' A' m c' (putBB9 l) ∧ Below w.heap.size w w' := by
  by_cases hn : n ≤ 960
  · exact refPut_short9 A n c l w h hn
  · exact refPut_long9 A n c l w h (by omega)

end Go.Proofs.Ytdejggdnpnofeaa
