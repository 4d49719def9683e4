/-
  Joined: BldLawC.
-/
import Derived.Laws.BitsLemmas
import Derived.Test.YtnjlganofjkpfaaGreatDoorJBldC38
import Derived.Test.YtnjlganofjkpfaaGreatDoorJBldC14
import Derived.Test.YtnjlganofjkpfaaGreatDoorJBldC26
/-
  The walk of BuildSpace.
-/
namespace Go.Proofs.YtnjlganofjkpfaaGreatDoor
open Go.RowKit
set_option linter.unusedVariables false
set_option linter.unusedSimpArgs false

theorem tree17_in (x : Int) : ∃ T : Nat, wrap64 (1 + (wrap64 (x.tmod 5 + 5)).tmod 5) = (T : Int) ∧ 1 ≤ T ∧ T ≤ 5 := by
  have h1 := Int.tmod_lt_of_pos x (show (0 : Int) < 5 by omega)
  have h2 := Int.lt_tmod_of_pos x (show (0 : Int) < 5 by omega)
  generalize x.tmod 5 = y at *
  have e : wrap64 (y + 5) = y + 5 := by unfold wrap64; omega
  rw [e]
  have h3 := Int.tmod_lt_of_pos (y + 5) (show (0 : Int) < 5 by omega)
  have h4 := Int.tmod_nonneg 5 (show 0 ≤ y + 5 by omega)
  generalize (y + 5).tmod 5 = z at *
  have e2 : wrap64 (1 + z) = 1 + z := by unfold wrap64; omega
  rw [e2]
  exact ⟨(1 + z).toNat, by omega, by omega, by omega⟩
theorem and17_511 (n : Int) : ∃ N : Nat, bits .and .i64 n 511 = (N : Int) ∧ N ≤ 511 := by
  have hm : (BitVec.ofInt 64 511).toNat = 2 ^ 9 - 1 := by decide
  have key : (BitVec.ofInt 64 n &&& BitVec.ofInt 64 511).toNat = (n % ((2 ^ 64 : Nat) : Int)).toNat % 2 ^ 9 := by
    rw [BitVec.toNat_and, BitVec.toNat_ofInt, hm, Nat.and_two_pow_sub_one_eq_mod]
  refine ⟨(BitVec.ofInt 64 n &&& BitVec.ofInt 64 511).toNat, ?_, by rw [key]; omega⟩
  show IntKind.i64.wrap ((BitVec.ofInt 64 n &&& BitVec.ofInt 64 511).toNat : Nat) = _
  rw [IntKind.wrap_i64, key]
  omega
/-- how many nodes -/
theorem need17 {T n : Nat} (hT : 1 ≤ T ∧ T ≤ 5) (hn : n ≤ 511) : ∃ k : Nat, (lev15 n (capN (widN (T : Int) true))).sum = (k : Int) ∧ 1 ≤ k ∧ k ≤ 172 ∧ levL15 (capN (widN (T : Int) true)) (n : Int) = lev15 n (capN (widN (T : Int) true)) := by
  obtain ⟨_, h6, _⟩ := wide17 hT
  have hs := lev15_sum n (capN (widN (T : Int) true))
  have hl : levL15 (capN (widN (T : Int) true)) (n : Int) = lev15 n (capN (widN (T : Int) true)) := by
    rw [levL15_some (by simp [some15]; omega), Int.toNat_natCast]
  generalize capN (widN (T : Int) true) = m at *
  have hf : fil15 n m ≤ 86 := by
    unfold fil15
    have h1 : (max n 1 - 1) / m ≤ (max n 1 - 1) / 6 := Nat.div_le_div_left h6 (by omega)
    omega
  exact ⟨(lev15 n m).sum.toNat, by omega, by omega, by omega, hl⟩

/-- an allocator over the blocks from 1 on; its own blocks lie from lo on -/
def Al17 (lo : Nat) (W : World) (p q t : Nat) (L : List UInt8) : Prop := ∃ base m g A n c, AImg W base p m lo g A n c (seq16 1 q) t L ∧ lo ≤ base ∧ L.length = q * 256
section
variable {lo : Nat} {W W' : World} {p q t : Nat} {L : List UInt8}
theorem Al17.plt (h : Al17 lo W p q t L) : p < W.heap.size := by
  obtain ⟨base, m, g, A, n, c, h1, _⟩ := h
  exact h1.alc.plt
theorem Al17.low (h : Al17 lo W p q t L) : lo ≤ p := by
  obtain ⟨base, m, g, A, n, c, h1, h2, _⟩ := h
  exact Nat.le_trans h2 h1.alc.bp
theorem Al17.later (h : Al17 lo W p q t L) (hb : Below W.heap.size W W') : Al17 lo W' p q t L := by
  obtain ⟨base, m, g, A, n, c, h1, h2, h3⟩ := h
  exact ⟨base, m, g, A, n, c, h1.later hb, h2, h3⟩
theorem Al17.keep {B9 : Nat} (h : Al17 lo W p q t L) (hb : Below B9 W W') (hp : p < B9) : Al17 lo W' p q t L := by
  obtain ⟨base, m, g, A, n, c, h1, h2, h3⟩ := h
  exact ⟨base, m, g, A, n, c, h1.keep17 hb hp, h2, h3⟩
theorem Al17.above {s : Nat} (h : Al17 lo W p q t L) (hk : ∀ k, s ≤ k → k < W.heap.size → W'.heap[k]? = W.heap[k]?) (hs : s ≤ lo) : Al17 lo W' p q t L := by
  obtain ⟨base, m, g, A, n, c, h1, h2, h3⟩ := h
  have hbp := h1.alc.bp
  have e1 := h1.img.bp
  have e2 := h1.img.bg
  refine ⟨base, m, g, A, n, c, ⟨h1.alc.mov (hk p (by omega) h1.alc.plt) (fun ad e => hk _ (by have := (h1.alc.low ad e).1; omega) (by have := (h1.alc.low ad e).2; have := h1.alc.plt; omega)), ⟨h1.img.bp, h1.img.bg, h1.img.ne, (hk m (by omega) h1.img.plt).trans h1.img.hp, (hk g (by omega) h1.img.glt).trans h1.img.hg, h1.img.most⟩, h1.mlt, h1.glt⟩, h2, h3⟩
theorem Al17.used (h : Al17 lo W p q t L) : Calls Tryz.prog 15 #[.pointer (some ⟨p, 0, none⟩)] W fun e w' => e = .returned (.int .i64 (t : Int)) ∧ W = w' := by
  obtain ⟨base, m, g, A, n, c, h1, h2, h3⟩ := h
  exact Used_yes16 h1.alc
theorem Al17.left (h : Al17 lo W p q t L) : Calls Tryz.prog 21 #[.pointer (some ⟨p, 0, none⟩)] W fun e w' => e = .returned (.int .i64 ((q - 1 - t : Nat) : Int)) ∧ Below W.heap.size W w' := by
  obtain ⟨base, m, g, A, n, c, h1, h2, h3⟩ := h
  refine h1.left17.mono fun e w' h => ⟨?_, h.2⟩
  rw [h.1, seq16_length]
theorem Al17.tree {W0 : World} {T n : Nat} {v : Value} {l : List Ent17} (h : Al17 lo W0 p q t L) (hq : q ≤ 1000) (hb : Below W0.heap.size W0 W) (hT : 1 ≤ T ∧ T ≤ 5) (hl : EntB l) (ho : W.ownsRow W0.heap.size 57 3 v n (entC l)) :
    Calls Tryz.prog 10 #[.pointer (some ⟨p, 0, none⟩), .int .i64 (T : Int), v] W fun e w' => e = .returned (.tuple #[.int .i64 (outB17 q T (seq16 1 q) l t L).root, errV17 (outB17 q T (seq16 1 q) l t L).x]) ∧ (∃ L', Al17 lo w' p q (outB17 q T (seq16 1 q) l t L).t L') ∧ Below lo W w' ∧ (∀ k, p < k → k < W.heap.size → w'.heap[k]? = W.heap[k]?) := by
  obtain ⟨base, m, g, A, n', c, h1, h2, h3⟩ := h
  have hpl := h1.alc.plt
  have hgl := h1.img.glt
  have e1 := h1.img.bg
  have e2 := h1.alc.bp
  have e3 := h1.glt
  obtain ⟨A2, c2, rfl, hE, hfar⟩ := Ens.behind17 ho hgl hpl
  refine (Tree_any17 (h1.later hb) hE (fun _ => hfar) hl (seq17_bs (by omega) (by omega)) h3 (by simp only [i64b]; omega)).mono ?_
  rintro e w' ⟨g1, g2, g3⟩
  refine ⟨g1, ⟨_, base, m, g, A, n', c, g2, h2, ?_⟩, ⟨g3.os, g3.tape, g3.output, g3.size, fun k hk => ?_⟩, fun k hk hk2 => g3.block k hk2 (fun e => by injection e; omega) (fun e => by injection e; omega)⟩
  · have := g2.img.hp
    have hq0 : (outB17 q T (seq16 1 q) l t L).L.length = q * 256 := outB17_length h3
    exact hq0
  · by_cases hk3 : k < W.heap.size
    · exact g3.block k hk3 (fun e => by injection e; omega) (fun e => by injection e; omega)
    · have := hb.size
      omega
end

theorem made1_17 (q : Nat) (W : World) (h1 : 1 ≤ q) (hq : q ≤ 1000) : Calls Tryz.prog 7 #[.int .i64 (q : Int), .int .i64 1] W fun e w' => ∃ p, e = .returned (.pointer (some ⟨p, 0, none⟩)) ∧ (∃ L, Al17 W.heap.size w' p q 0 L) ∧ Below W.heap.size W w' := by
  refine (made_any17 q 1 W hq).mono ?_
  rintro e w' ⟨va, rfl, h2, h3⟩
  rcases h2 with ⟨h, _⟩ | ⟨_, base, p, m, g, A, n, c, rfl, h4, h5⟩
  · exact absurd h (by omega)
  · exact ⟨p, rfl, ⟨_, base, m, g, A, n, c, h4, h5, by simp⟩, h3⟩
/-- both allocators of BuildSpace -/
structure Sp17 (w W : World) (r s k pa ta pb tb : Nat) : Prop where
  bel : Below w.heap.size w W
  a : ∃ L, Al17 r W pa (k + 1) ta L
  b : ∃ L, Al17 s W pb k tb L
  hr : w.heap.size ≤ r
  hs : pa < s
section
variable {w W W' : World} {r s k pa ta pb tb : Nat}
theorem Sp17.later (h : Sp17 w W r s k pa ta pb tb) (hb : Below W.heap.size W W') : Sp17 w W' r s k pa ta pb tb := by
  obtain ⟨La, ha⟩ := h.a
  obtain ⟨Lb, hb2⟩ := h.b
  exact ⟨h.bel.trans (hb.mono h.bel.size), ⟨La, ha.later hb⟩, ⟨Lb, hb2.later hb⟩, h.hr, h.hs⟩
theorem Sp17.treeA {W0 : World} {T n : Nat} {v : Value} (h : Sp17 w W0 r s k pa 0 pb tb) (hk : k ≤ 172) (hb : Below W0.heap.size W0 W) (hT : 1 ≤ T ∧ T ≤ 5) (hn : n ≤ 511) (hneed : (lev15 n (capN (widN (T : Int) true))).sum = (k : Int)) (h1 : 1 ≤ k) (ho : W.ownsRow W0.heap.size 57 3 v n (entC (some17 (widN (T : Int) true) n))) :
    Calls Tryz.prog 10 #[.pointer (some ⟨pa, 0, none⟩), .int .i64 (T : Int), v] W fun e w' => e = .returned (.tuple #[.int .i64 (k : Int), .nilIface]) ∧ Sp17 w w' r s k pa k pb tb := by
  obtain ⟨La, ha⟩ := h.a
  obtain ⟨Lb, hb2⟩ := h.b
  have hw := wide17 hT
  have hlow := ha.low
  have hsz := hb.size
  have hbl := h.bel.trans (hb.mono h.bel.size)
  have hb3 := hb2.later hb
  obtain ⟨o1, o2, o3, _⟩ := out17_room (q := k + 1) (f := 1) (L := La) (some17_right hT (show n ≤ 1000 by omega)) (by rw [some17_length]; exact hneed) (by omega)
  have hC := ha.tree (by omega) hb hT (some17_entB hw.1 (show n ≤ 1000 by omega)) ho
  rw [o1, o2, o3] at hC
  refine hC.mono ?_
  rintro e w' ⟨g1, ⟨L', g2⟩, g3, g4⟩
  rw [show 1 + k - 1 = k by omega] at g1
  have hr := h.hr
  have hpa := ha.plt
  refine ⟨g1, ⟨⟨g3.os.trans hbl.os, g3.tape.trans hbl.tape, g3.output.trans hbl.output, Nat.le_trans hbl.size g3.size, fun j hj => (g3.block j (by omega)).trans (hbl.block j hj)⟩, ⟨L', g2⟩, ⟨Lb, hb3.above (s := s) (fun j hj hj2 => g4 j (by have := h.hs; omega) hj2) (Nat.le_refl _)⟩, hr, h.hs⟩⟩
theorem Sp17.treeB {W0 : World} {T n : Nat} {v : Value} (h : Sp17 w W0 r s k pa ta pb 0) (hk : k ≤ 172) (hb : Below W0.heap.size W0 W) (hT : 1 ≤ T ∧ T ≤ 5) (hn : n ≤ 511) (hneed : (lev15 n (capN (widN (T : Int) true))).sum = (k : Int)) (h1 : 1 ≤ k) (ho : W.ownsRow W0.heap.size 57 3 v n (entC (some17 (widN (T : Int) true) n))) :
    Calls Tryz.prog 10 #[.pointer (some ⟨pb, 0, none⟩), .int .i64 (T : Int), v] W fun e w' => e = .returned (.tuple #[.int .i64 0, .iface 40 (.int .i64 14)]) ∧ Sp17 w w' r s k pa ta pb 0 := by
  obtain ⟨La, ha⟩ := h.a
  obtain ⟨Lb, hb2⟩ := h.b
  have hw := wide17 hT
  have hlow := ha.low
  have hbl := h.bel.trans (hb.mono h.bel.size)
  have ha3 := ha.later hb
  have o := out17_none (q := k) (f := 1) (L := Lb) (some17_right hT (show n ≤ 1000 by omega)) (by rw [some17_length]; exact hneed) (by omega)
  have hC := hb2.tree (by omega) hb hT (some17_entB hw.1 (show n ≤ 1000 by omega)) ho
  rw [o] at hC
  refine hC.mono ?_
  rintro e w' ⟨g1, ⟨L', g2⟩, g3, g4⟩
  have hr := h.hr
  have hs := h.hs
  exact ⟨g1, ⟨⟨g3.os.trans hbl.os, g3.tape.trans hbl.tape, g3.output.trans hbl.output, Nat.le_trans hbl.size g3.size, fun j hj => (g3.block j (by omega)).trans (hbl.block j hj)⟩, ⟨La, ha3.keep g3 hs⟩, ⟨L', g2⟩, hr, hs⟩⟩
end

set_option maxRecDepth 100000 in
set_option maxHeartbeats 3200000 in
theorem buildspace_walk (n tree : Int) (w : World) (_hn : -9223372036854775808 ≤ n ∧ n ≤ 9223372036854775807) (_ht : -9223372036854775808 ≤ tree ∧ tree ≤ 9223372036854775807) (hg : ErrT w) :
    Calls Tryz.prog 4 #[.int .i64 n, .int .i64 tree] w fun e w' => e = .returned (.bool true) ∧ Below w.heap.size w w' := by
  obtain ⟨N, hN, hN2⟩ := and17_511 n
  obtain ⟨T, hT0, hT⟩ := tree17_in tree
  obtain ⟨k, hk, hk1, hk2, hkl⟩ := need17 hT hN2
  have ND : Hid (Calls Tryz.prog 19 #[.int .i64 (T : Int), .int .i64 (N : Int)] w fun e w' => e = .returned (.int .i64 (k : Int)) ∧ Below w.heap.size w w') := (Nodes_any15 (T : Int) (N : Int) (capN (widN (T : Int) true)) rfl w).mono fun e w' h => ⟨by rw [h.1, hkl, hk], h.2⟩
  have MA : Hid (∀ W, Calls Tryz.prog 7 #[.int .i64 ((k : Int) + 1), .int .i64 1] W fun e w' => ∃ p, e = .returned (.pointer (some ⟨p, 0, none⟩)) ∧ Hid (∃ L, Al17 W.heap.size w' p (k + 1) 0 L) ∧ Hid (Below W.heap.size W w')) := fun W => made1_17 (k + 1) W (by omega) (by omega)
  have MB : Hid (∀ (W1 W : World) (pa : Nat), Below w.heap.size w W1 → Hid (∃ L, Al17 W1.heap.size W pa (k + 1) 0 L) → Hid (Below W1.heap.size W1 W) → Calls Tryz.prog 7 #[.int .i64 (k : Int), .int .i64 1] W fun e w' => ∃ p, e = .returned (.pointer (some ⟨p, 0, none⟩)) ∧ Hid (Sp17 w w' W1.heap.size W.heap.size k pa 0 p 0)) := fun W1 W pa hb1 hA hB => by
    refine (made1_17 k W (by omega) (by omega)).mono ?_
    rintro e w' ⟨p, h1, h2, h3⟩
    obtain ⟨La, ha⟩ := hA.out
    exact ⟨p, h1, ⟨(hb1.trans (hB.out.mono hb1.size)).trans (h3.mono (Nat.le_trans hb1.size hB.out.size)), ⟨La, ha.later h3⟩, h2, hb1.size, ha.plt⟩⟩
  have SM : Hid (∀ W, Calls Tryz.prog 20 #[.int .i64 (N : Int), .int .i64 (T : Int)] W fun e w' => ∃ v, e = .returned v ∧ Hid (w'.ownsRow W.heap.size 57 3 v N (entC (some17 (widN (T : Int) true) N))) ∧ Hid (Below W.heap.size W w')) := fun W => some_any17 T N hT (by omega) W
  have TA : Hid (∀ (W0 W : World) (r s pa pb tb : Nat) (v : Value), Hid (Sp17 w W0 r s k pa 0 pb tb) → Hid (W.ownsRow W0.heap.size 57 3 v N (entC (some17 (widN (T : Int) true) N))) → Hid (Below W0.heap.size W0 W) → Calls Tryz.prog 10 #[.pointer (some ⟨pa, 0, none⟩), .int .i64 (T : Int), v] W fun e w' => e = .returned (.tuple #[.int .i64 (k : Int), .nilIface]) ∧ Hid (Sp17 w w' r s k pa k pb tb)) := fun W0 W r s pa pb tb v h ho hb => h.out.treeA hk2 hb.out hT hN2 hk hk1 ho.out
  have TB : Hid (∀ (W0 W : World) (r s pa ta pb : Nat) (v : Value), Hid (Sp17 w W0 r s k pa ta pb 0) → Hid (W.ownsRow W0.heap.size 57 3 v N (entC (some17 (widN (T : Int) true) N))) → Hid (Below W0.heap.size W0 W) → Calls Tryz.prog 10 #[.pointer (some ⟨pb, 0, none⟩), .int .i64 (T : Int), v] W fun e w' => e = .returned (.tuple #[.int .i64 0, .iface 40 (.int .i64 14)]) ∧ Hid (Sp17 w w' r s k pa ta pb 0)) := fun W0 W r s pa ta pb v h ho hb => h.out.treeB hk2 hb.out hT hN2 hk hk1 ho.out
  have LF : Hid (∀ (W : World) (r s pa pb tb : Nat), Hid (Sp17 w W r s k pa k pb tb) → Calls Tryz.prog 21 #[.pointer (some ⟨pa, 0, none⟩)] W fun e w' => e = .returned (.int .i64 0) ∧ Hid (Sp17 w w' r s k pa k pb tb)) := fun W r s pa pb tb h => by
    obtain ⟨La, ha⟩ := h.out.a
    refine ha.left.mono fun e w' g => ⟨?_, h.out.later g.2⟩
    rw [g.1, show k + 1 - 1 - k = 0 by omega]
    rfl
  have CD : Hid (∀ (W : World) (r s pa ta pb tb : Nat), Hid (Sp17 w W r s k pa ta pb tb) → Calls Tryz.prog 11 #[.iface 40 (.int .i64 14)] W fun e w' => e = .returned (.int .i64 14) ∧ Hid (Sp17 w w' r s k pa ta pb tb)) := fun W r s pa ta pb tb h => (Code_err (x := .num 14) (l := []) (w := W) rfl (hg.later h.out.bel)).mono fun e w' g => ⟨g.1, h.out.later g.2⟩
  have US : Hid (∀ (W : World) (r s pa ta pb : Nat), Hid (Sp17 w W r s k pa ta pb 0) → Calls Tryz.prog 15 #[.pointer (some ⟨pb, 0, none⟩)] W fun e w' => e = .returned (.int .i64 0) ∧ W = w') := fun W r s pa ta pb h => by
    obtain ⟨Lb, hb⟩ := h.out.b
    exact hb.used
  have LV : Hid (∀ (W : World) (r s pa ta pb tb : Nat), Hid (Sp17 w W r s k pa ta pb tb) → Calls Tryz.prog 6 #[] W fun e w' => e = .returned (.bool true) ∧ Below w.heap.size w w') := fun W r s pa ta pb tb h => (lives17_any W).mono fun e w' g => ⟨g.1, h.out.bel.trans (g.2.mono h.out.bel.size)⟩
  clear hT hk hkl hg
  have hk3 : ¬ (k : Int) < 1 := by omega
  have hk4 : ¬ (200 : Int) < (k : Int) := by omega
  have hkb : (k : Int) ≤ 172 := by omega
  go_enter Tryz.func4, Tryz.ntmps4
  go_wp2_with (first
    | (go_at_call 19; (with_reducible refine (ND.out).mono ?_); rintro e w1 ⟨rfl, hb1⟩)
    | (go_at_call 7; first
        | ((with_reducible refine (MB.out _ _ _ hb1 hA2 hB2).mono ?_); rintro e w3 ⟨pb, rfl, hS3⟩)
        | ((with_reducible refine (MA.out _).mono ?_); rintro e w2 ⟨pa, rfl, hA2, hB2⟩))
    | (go_at_call 20; first
        | ((with_reducible refine (SM.out w5).mono ?_); rintro e w6 ⟨v6, rfl, ho6, hb6⟩)
        | ((with_reducible refine (SM.out w3).mono ?_); rintro e w4 ⟨v4, rfl, ho4, hb4⟩))
    | (go_at_call 10; first
        | ((with_reducible refine (TB.out _ _ _ _ _ _ _ _ hS5 ho6 hb6).mono ?_); rintro e w7 ⟨rfl, hS7⟩)
        | ((with_reducible refine (TA.out _ _ _ _ _ _ _ _ hS3 ho4 hb4).mono ?_); rintro e w5 ⟨rfl, hS5⟩))
    | (go_at_call 21; (with_reducible refine (LF.out _ _ _ _ _ _ hS7).mono ?_); rintro e w8 ⟨rfl, hS8⟩)
    | (go_at_call 11; (with_reducible refine (CD.out _ _ _ _ _ _ _ hS8).mono ?_); rintro e w9 ⟨rfl, hS9⟩)
    | (go_at_call 15; (with_reducible refine (US.out _ _ _ _ _ _ hS9).mono ?_); rintro e wa ⟨rfl, rfl⟩)
    | (go_at_call 6; (with_reducible refine (LV.out _ _ _ _ _ _ _ hS9).mono ?_); rintro e wb ⟨rfl, hbb⟩))
  go_ret
  exact ⟨rfl, hbb⟩
end Go.Proofs.YtnjlganofjkpfaaGreatDoor
