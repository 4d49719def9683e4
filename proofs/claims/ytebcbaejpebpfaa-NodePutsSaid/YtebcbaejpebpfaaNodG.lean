/-
  Layer 7's Read: what it asks of the form.
-/
import Derived.Test.YtebcbaejpebpfaaNodF
import Derived.Test.YtebcbaejpebpfaaCodeC
import Derived.Test.YtebcbaejpebpfaaCodeG
import Derived.Laws.ResultCell
import Derived.Deep.RegionHeld3
import Derived.BigRegion
namespace Go.Proofs.Ytebcbaejpebpfaa
open Go.RowKit
set_option linter.unusedVariables false
set_option linter.unusedSimpArgs false

/-! ### the form, as Read asks it -/
def nodHeadB (l : List UInt8) : List UInt8 := encs (beginF (treeR l) (leafR l) (cntR l))
def zkB (l : List UInt8) : Bool := zeroB ((l.drop (12 + 8 * cntR l)).take (8 * capR l - 8 * cntR l))
def zvB (l : List UInt8) : Bool := zeroB (l.drop (12 + 8 * capR l + widR l * cntR l))

theorem two_iff {x y : UInt8} {n : Nat} (h : n < 65536) : [UInt8.ofNat n, UInt8.ofNat (n / 256)] = [x, y] ↔ leN [x, y] = n := by
  constructor
  · intro e
    rw [← e]
    exact leN_encN 2 n (by simpa using h)
  · intro e
    rw [← e]
    exact two_back x y

theorem four_iff {x y z t : UInt8} : encN 4 0 = [x, y, z, t] ↔ leN [x, y, z, t] = 0 := by
  constructor
  · intro e
    rw [← e]
    rfl
  · intro e
    rw [← e]
    exact four_back x y z t

theorem nodHeadB_len (l : List UInt8) : (nodHeadB l).length = 12 := by
  simp [nodHeadB, beginF, encs, encN_length]

theorem head_iff {l : List UInt8} (h : l.length = 244) : l.take 12 = nodHeadB l ↔ (l.getD 0 0).toNat ≤ 1 ∧ at2 l 4 = widR l ∧ at2 l 6 = capR l ∧ leN ((l.drop 8).take 4) = 0 := by
  have hwc : widR l < 65536 ∧ capR l < 65536 := by
    have hc := widN_cases (treeR l) (leafR l)
    change (widR l = 0 ∧ capR l = 0) ∨ (widR l = 4 ∧ capR l = 18) ∨ (widR l = 8 ∧ capR l = 12) ∨ (widR l = 24 ∧ capR l = 6) ∨ (widR l = 16 ∧ capR l = 9) at hc
    rcases hc with ⟨a, c⟩ | ⟨a, c⟩ | ⟨a, c⟩ | ⟨a, c⟩ | ⟨a, c⟩ <;> rw [a, c] <;> omega
  have e : nodHeadB l = [if leafR l = true then 1 else 0] ++ ([UInt8.ofNat (treeR l).toNat] ++ ([UInt8.ofNat (cntR l), UInt8.ofNat (cntR l / 256)] ++ ([UInt8.ofNat (widR l), UInt8.ofNat (widR l / 256)] ++ ([UInt8.ofNat (capR l), UInt8.ofNat (capR l / 256)] ++ encN 4 0)))) := by
    cases hl : leafR l <;> simp [nodHeadB, beginF, encs, encN, hl, widR, capR]
  have e2 := (two_iff (x := l.getD 4 0) (y := l.getD 5 0) hwc.1)
  have e3 := (two_iff (x := l.getD 6 0) (y := l.getD 7 0) hwc.2)
  have e4 := (four_iff (x := l.getD 8 0) (y := l.getD 9 0) (z := l.getD 10 0) (t := l.getD 11 0))
  have ec : [UInt8.ofNat (cntR l), UInt8.ofNat (cntR l / 256)] = [l.getD 2 0, l.getD 3 0] := by
    match l, h with
    | x0 :: x1 :: x2 :: x3 :: r, _ => exact two_back x2 x3
  have et : UInt8.ofNat (treeR l).toNat = l.getD 1 0 := by simp [treeR]
  have el : (if leafR l = true then (1 : UInt8) else 0) = l.getD 0 0 ↔ (l.getD 0 0).toNat ≤ 1 := by
    constructor
    · intro h
      rw [← h]
      split <;> simp
    · intro h; exact bit_back h
  rw [e, ec, et]
  generalize (if leafR l = true then (1 : UInt8) else 0) = q0 at *
  have ew : at2 l 4 = leN [l.getD 4 0, l.getD 5 0] ∧ at2 l 6 = leN [l.getD 6 0, l.getD 7 0] ∧ leN ((l.drop 8).take 4) = leN [l.getD 8 0, l.getD 9 0, l.getD 10 0, l.getD 11 0] := by
    match l, h with
    | x0 :: x1 :: x2 :: x3 :: x4 :: x5 :: x6 :: x7 :: x8 :: x9 :: x10 :: x11 :: r, _ => exact ⟨rfl, rfl, rfl⟩
  rw [ew.1, ew.2.1, ew.2.2, ← e2, ← e3, ← e4, ← el]
  have e5 : l.take 12 = [l.getD 0 0, l.getD 1 0, l.getD 2 0, l.getD 3 0, l.getD 4 0, l.getD 5 0, l.getD 6 0, l.getD 7 0, l.getD 8 0, l.getD 9 0, l.getD 10 0, l.getD 11 0] := by
    match l, h with
    | x0 :: x1 :: x2 :: x3 :: x4 :: x5 :: x6 :: x7 :: x8 :: x9 :: x10 :: x11 :: r, _ => rfl
  rw [e5]
  change [l.getD 0 0, l.getD 1 0, l.getD 2 0, l.getD 3 0, l.getD 4 0, l.getD 5 0, l.getD 6 0, l.getD 7 0, l.getD 8 0, l.getD 9 0, l.getD 10 0, l.getD 11 0] = [q0, l.getD 1 0, l.getD 2 0, l.getD 3 0, UInt8.ofNat (widR l), UInt8.ofNat (widR l / 256), UInt8.ofNat (capR l), UInt8.ofNat (capR l / 256), 0, 0, 0, 0] ↔ q0 = l.getD 0 0 ∧ [UInt8.ofNat (widR l), UInt8.ofNat (widR l / 256)] = [l.getD 4 0, l.getD 5 0] ∧ [UInt8.ofNat (capR l), UInt8.ofNat (capR l / 256)] = [l.getD 6 0, l.getD 7 0] ∧ [0, 0, 0, 0] = [l.getD 8 0, l.getD 9 0, l.getD 10 0, l.getD 11 0]
  constructor
  · intro h
    simp only [List.cons.injEq, and_true] at h ⊢
    obtain ⟨h0, _, _, _, h4, h5, h6, h7, h8, h9, h10, h11⟩ := h
    exact ⟨h0.symm, ⟨h4.symm, h5.symm⟩, ⟨h6.symm, h7.symm⟩, h8.symm, h9.symm, h10.symm, h11.symm⟩
  · rintro ⟨h0, h1, h2, h3⟩
    simp only [List.cons.injEq, and_true] at h1 h2 h3 ⊢
    obtain ⟨h8, h9, h10, h11⟩ := h3
    exact ⟨h0.symm, trivial, trivial, trivial, h1.1.symm, h1.2.symm, h2.1.symm, h2.2.symm, h8.symm, h9.symm, h10.symm, h11.symm⟩

theorem form_iff {l : List UInt8} (h : l.length = 244) : FormN l ↔ (holdsN (treeR l) (leafR l) (cntR l) = true ∧ l.take 12 = nodHeadB l) ∧ zkB l = true ∧ zvB l = true := by
  rw [head_iff h]
  have hp := @capN_pos (treeR l) (leafR l)
  change 0 < capR l ↔ widR l ≠ 0 at hp
  have hh : holdsN (treeR l) (leafR l) (cntR l) = true ↔ widR l ≠ 0 ∧ cntR l ≤ capR l ∧ (leafR l = true ∨ cntR l ≠ 0) := by
    rw [← hp]
    change (decide (0 < capR l) && decide (cntR l ≤ capR l) && (leafR l || decide (0 < cntR l))) = true ↔ _
    simp only [Bool.and_eq_true, Bool.or_eq_true, decide_eq_true_eq, Nat.pos_iff_ne_zero, and_assoc]
  rw [hh]
  constructor
  · rintro ⟨_, h2, h3, h4, h5, h6, h7, h8, h9, h10⟩
    exact ⟨⟨⟨h3, h7, h8⟩, h2, h4, h5, h6⟩, h9, h10⟩
  · rintro ⟨⟨⟨h3, h7, h8⟩, h2, h4, h5, h6⟩, h9, h10⟩
    exact ⟨h, h2, h3, h4, h5, h6, h7, h8, h9, h10⟩

/-! ### nodes as results -/
theorem results_nod {fn : Func} {p u : Tmp} (h : fn.results = #[.cell p 25, .tmp u]) (tmps : Array Value) (w : World) (g : Nat) (tree : Int) (leaf : Bool) (s1 s2 : Value) (o1 : s1.oneCell' = true) (o2 : s2.oneCell' = true)
    (hp : tmps.getD p undef = .pointer (some ⟨g, 0, none⟩)) (hg : NodAt w g tree leaf s1 s2) : (results fn tmps).run Try.prog w = .ok (.tuple #[.agg #[.int .i64 tree, .bool leaf, s1, s2], tmps.getD u undef]) w := by
  rw [results_cell_tmp h, hp]
  simp [asAddr, run_loadVar_row w g _ _ _ _ _ hg Try.underlying25 rfl (by kernel_rfl), Result.andThen]

theorem NodAt.store {w : World} {g : Nat} {tree : Int} {leaf : Bool} {s1 s2 : Value} (h : NodAt w g tree leaf s1 s2) (tree' : Int) (leaf' : Bool) (s1' s2' : Value) :
    NodAt ((((w.setCell ⟨g, 0, none⟩ (.int .i64 tree')).setCell ⟨g, 1, none⟩ (.bool leaf')).setCell ⟨g, 2, none⟩ s1').setCell ⟨g, 3, none⟩ s2') g tree' leaf' s1' s2' := by
  unfold NodAt
  rw [heap_setCell_same _ g 3 _ _ _ (heap_setCell_same _ g 2 _ _ _ (heap_setCell_same _ g 1 _ _ _ (heap_setCell_same w g 0 _ _ _ h)))]
  rfl

theorem below_store7 {B g : Nat} {w0 w : World} (hb : Below B w0 w) (hg : B ≤ g) (v0 v1 v2 v3 : Value) : Below B w0 ((((w.setCell ⟨g, 0, none⟩ v0).setCell ⟨g, 1, none⟩ v1).setCell ⟨g, 2, none⟩ v2).setCell ⟨g, 3, none⟩ v3) :=
  (((hb.setCell (p := ⟨g, 0, none⟩) hg _).setCell (p := ⟨g, 1, none⟩) hg _).setCell (p := ⟨g, 2, none⟩) hg _).setCell (p := ⟨g, 3, none⟩) hg _

abbrev zeroNode : Value := .agg #[.int .i64 0, .bool false, .slice none 0 0, .slice none 0 0]
theorem zeroNode_eq : nodV Nod.zero none 0 0 none 0 0 = zeroNode := rfl

set_option maxRecDepth 100000 in
set_option maxHeartbeats 800000 in
theorem Read_len (w : World) (A : Option Addr) (n c : Nat) (l : List UInt8) (hB : Bytes8 w A n c l) (h : l.length ≠ 244) :
    Calls Try.prog 19 #[.slice A n c] w fun e w' => e = .returned (.tuple #[zeroNode, .int .i64 7]) ∧ Below w.heap.size w w' := by
  have hn := hB.le
  have hne : ((n : Int) != 244) = true := by rw [bne_iff_ne]; have := hB.len; omega
  have hz := NodAt.new w 0 false (.slice none 0 0) (.slice none 0 0)
  have hb : Below w.heap.size w (w.alloc (.cells #[.int .i64 0, .bool false, .slice none 0 0, .slice none 0 0] 25)) := (Below.refl _ _).alloc (Nat.le_refl _) _
  clear hB h
  go_enter Try.func19, Try.ntmps19
  go_wp2
  refine bodyPost_ret (results_nod Try.results19 _ _ w.heap.size 0 false (.slice none 0 0) (.slice none 0 0) rfl rfl rfl hz) rfl ?_
  exact ⟨rfl, hb⟩

/-- the result's variable and the node's, all below as it was -/
structure RdN (w0 w : World) (tree : Int) (leaf : Bool) : Prop where
  zero : NodAt w w0.heap.size 0 false (.slice none 0 0) (.slice none 0 0)
  node : NodAt w (w0.heap.size + 1) tree leaf (.slice none 0 0) (.slice none 0 0)
  bel : Below w0.heap.size w0 w
theorem RdN.later {w0 w w' : World} {tree : Int} {leaf : Bool} (h : RdN w0 w tree leaf) (hb : Below w.heap.size w w') : RdN w0 w' tree leaf := ⟨h.zero.later hb, h.node.later hb, h.bel.trans (hb.mono h.bel.size)⟩

abbrev zN : Obj := .cells #[.int .i64 0, .bool false, .slice none 0 0, .slice none 0 0] 25

theorem RdN.start (w : World) (tree : Int) (leaf : Bool) : RdN w ((w.alloc zN).alloc (.cells #[.int .i64 tree, .bool leaf, .slice none 0 0, .slice none 0 0] 25)).drew tree leaf := by
  obtain ⟨h1, h2, h3⟩ := two_nodes w Nod.zero ⟨tree, leaf, [], []⟩ (.slice none 0 0) (.slice none 0 0) (.slice none 0 0) (.slice none 0 0)
  exact ⟨h1, h2, h3.drew⟩

/-- what the walks of Read know at the start -/
structure RdIn (w : World) (b off n c : Nat) (l : List UInt8) (x0 : Nat) : Prop where
  hn : n = 244
  cap : 244 ≤ c
  most : c ≤ 9223372036854775807
  k0 : w.cell? ⟨b, off, none⟩ = some (.int .u8 (x0 : Int))
  k1 : w.cell? ⟨b, off + 1, none⟩ = some (.int .u8 (treeR l))
  hb : b < w.heap.size
  leaf : ((x0 : Int) == 1) = leafR l
  tree : 0 ≤ treeR l ∧ treeR l ≤ 255
  cnt : cntR l ≤ 65535

/-- the first two bytes, at three worlds -/
theorem RdIn.three {w : World} {b off n c x0 : Nat} {l : List UInt8} (h : RdIn w b off n c l x0) :
    (w.alloc zN).cell? ⟨b, off, none⟩ = some (.int .u8 (x0 : Int)) ∧ (w.alloc zN).cell? ⟨b, off + 1, none⟩ = some (.int .u8 (treeR l)) ∧
    ((w.alloc zN).alloc zN).cell? ⟨b, off, none⟩ = some (.int .u8 (x0 : Int)) ∧ ((w.alloc zN).alloc zN).cell? ⟨b, off + 1, none⟩ = some (.int .u8 (treeR l)) ∧
    ((w.alloc zN).alloc (.cells #[.int .i64 (treeR l), .bool (leafR l), .slice none 0 0, .slice none 0 0] 25)).cell? ⟨b, off, none⟩ = some (.int .u8 (x0 : Int)) ∧ ((w.alloc zN).alloc (.cells #[.int .i64 (treeR l), .bool (leafR l), .slice none 0 0, .slice none 0 0] 25)).cell? ⟨b, off + 1, none⟩ = some (.int .u8 (treeR l)) := by
  have h0 : Below w.heap.size w (w.alloc zN) := (Below.refl _ _).alloc (Nat.le_refl _) _
  have h1 : ∀ o, Below w.heap.size w ((w.alloc zN).alloc o) := fun o => h0.alloc h0.size _
  exact ⟨(h0.cell (p := ⟨b, off, none⟩) h.hb).trans h.k0, (h0.cell (p := ⟨b, off + 1, none⟩) h.hb).trans h.k1, ((h1 _).cell (p := ⟨b, off, none⟩) h.hb).trans h.k0, ((h1 _).cell (p := ⟨b, off + 1, none⟩) h.hb).trans h.k1, ((h1 _).cell (p := ⟨b, off, none⟩) h.hb).trans h.k0, ((h1 _).cell (p := ⟨b, off + 1, none⟩) h.hb).trans h.k1⟩

theorem rd_in {w : World} {A : Option Addr} {n c : Nat} {l : List UInt8} (hB : Bytes8 w A n c l) (h : l.length = 244) : ∃ b off x0, A = some ⟨b, off, none⟩ ∧ RdIn w b off n c l x0 := by
  have hn := hB.len
  obtain ⟨b, off, rfl, hb, hc⟩ := hB.row.lit (by rw [u8s_length]; omega)
  have c0 := hc 0 _ (u8s_at l 0 (by omega))
  have c1 := hc 1 _ (u8s_at l 1 (by omega))
  have e1 : treeR l = (l[1].toNat : Int) := by simp [treeR, List.getD_eq_getElem?_getD, h]
  have e0 : leafR l = (l[0] == 1) := by simp [leafR, List.getD_eq_getElem?_getD, h]
  refine ⟨b, off, l[0].toNat, rfl, by omega, by have := hB.cap; omega, hB.most, c0, by rw [e1]; exact c1, hb, ?_, ?_, ?_⟩
  · rw [e0, Bool.eq_iff_iff, beq_iff_eq, beq_iff_eq]
    constructor
    · intro e; apply UInt8.toNat_inj.1; simp; omega
    · intro e; rw [e]; rfl
  · rw [e1]; have := UInt8.toNat_lt l[1]; omega
  · have := leN_lt ((l.drop 2).take 2)
    simp only [List.length_take, List.length_drop, h] at this
    change cntR l < 256 ^ 2 at this
    omega

theorem headF_ok (tree : Int) (leaf : Bool) (cnt : Nat) (ht : 0 ≤ tree ∧ tree ≤ 255) (hc : cnt ≤ 65535) : packE (beginF tree leaf cnt) = 0 := by
  have hwc : widN tree leaf ≤ 24 ∧ capN (widN tree leaf) ≤ 18 := by rcases widN_cases tree leaf with ⟨a, b⟩ | ⟨a, b⟩ | ⟨a, b⟩ | ⟨a, b⟩ | ⟨a, b⟩ <;> rw [b, a] <;> omega
  obtain ⟨hw1, hw2⟩ := hwc
  have f1 : fitsB (if leaf = true then 1 else 0) 1 = true := by cases leaf <;> rfl
  have f2 : fitsB tree 1 = true := by simp [fitsB]; omega
  have f3 : fitsB (cnt : Int) 2 = true := by simp [fitsB]; omega
  have f4 : fitsB (widN tree leaf : Int) 2 = true := by simp [fitsB]; omega
  have f5 : fitsB (capN (widN tree leaf) : Int) 2 = true := by simp [fitsB]; omega
  have f6 : fitsB 0 4 = true := by rfl
  simp [beginF, packE, isW, f1, f2, f3, f4, f5, f6]

theorem rd_prefix {w : World} {A : Option Addr} {n c : Nat} {l : List UInt8} {tree : Int} {leaf : Bool} (hB : Bytes8 w A n c l) (h : l.length = 244) (hd : List UInt8) (r : Bool) (hr : decide (l.take 12 = hd) = r) (W : World) (A' : Option Addr) (c' : Nat) (hW : RdN w W tree leaf) (h2 : Bytes8 W A' 12 c' hd) :
    Calls Try.prog 29 #[.slice A n c, .slice A' 12 c'] W fun e w' => e = .returned (.bool r) ∧ W = w' :=
  HasPrefix_any A n c l A' 12 c' hd W (hB.below hW.bel) h2 (by have := hB.len; omega) r hr

/-- Get, begin and Pack in Read -/
theorem rd_get {w : World} {A : Option Addr} {n c : Nat} {l : List UInt8} {tree : Int} {leaf : Bool} (hB : Bytes8 w A n c l) (h : l.length = 244) (W : World) (hW : RdN w W tree leaf) :
    Calls Try.prog 28 #[.slice A n c, .int .i64 2, .int .i64 2] W fun e w' => e = .returned (.tuple #[.int .i64 (cntR l), .int .i64 0]) ∧ RdN w w' tree leaf := by
  have g := (get_in (l := l) (wd := 2) 2 (by decide) (by rw [h]; decide)).1 (small_le (k := 2) (by omega) (by rw [List.length_take]; exact Nat.min_le_left _ _))
  refine (Get_any A n c l 2 2 W (hB.below hW.bel) (by omega)).mono ?_
  rintro e w' ⟨rfl, hb⟩
  exact ⟨by rw [show getE l 2 2 = 0 from g.1, show getN l 2 2 = (cntR l : Int) from g.2], hW.later hb⟩

theorem rd_begin {w : World} {tree : Int} {leaf : Bool} (cnt : Nat) (ht : 0 ≤ tree ∧ tree ≤ 255) (hc : cnt ≤ 65535) (W : World) (hW : RdN w W tree leaf) :
    Calls Try.prog 21 #[.int .i64 tree, .bool leaf, .int .i64 cnt] W fun e w' => ∃ A' c', e = .returned (.slice A' 6 c') ∧ Flds w' A' 6 c' (beginF tree leaf cnt) ∧ RdN w w' tree leaf := by
  refine (begin_any tree leaf cnt W W.heap.size (Nat.le_refl _)).mono ?_
  rintro e w' ⟨v', rfl, ho, hb⟩
  obtain ⟨A', c', rfl, hF⟩ := Flds.of_own7 ho (begin_bds (by simp only [i64b]; omega) (by simp only [i64b]; omega)) rfl
  exact ⟨A', c', rfl, hF, hW.later hb⟩

theorem rd_pack {w : World} {tree : Int} {leaf : Bool} (cnt : Nat) (ht : 0 ≤ tree ∧ tree ≤ 255) (hc : cnt ≤ 65535) (W : World) (A : Option Addr) (c : Nat) (hW : RdN w W tree leaf) (hF : Flds W A 6 c (beginF tree leaf cnt)) :
    Calls Try.prog 22 #[.slice A 6 c] W fun e w' => ∃ A' c', e = .returned (.tuple #[.slice A' 12 c', .int .i64 0]) ∧ Bytes8 w' A' 12 c' (encs (beginF tree leaf cnt)) ∧ RdN w w' tree leaf := by
  refine (Pack_any A 6 c _ W hF (by omega)).mono ?_
  rintro e w' ⟨A', m, c', rfl, hB, hb⟩
  have e0 := headF_ok tree leaf cnt ht hc
  rw [packB, if_pos e0] at hB
  have hl : (encs (beginF tree leaf cnt)).length = 12 := by simp [beginF, encs, encN_length]
  obtain rfl : 12 = m := by have := hB.len; rw [hl] at this; exact this
  exact ⟨A', c', by rw [e0], hB, hW.later hb⟩

set_option maxRecDepth 100000 in
set_option maxHeartbeats 1600000 in
theorem Read_holds (w : World) (A : Option Addr) (n c : Nat) (l : List UInt8) (hB : Bytes8 w A n c l) (h : l.length = 244) (hh : holdsN (treeR l) (leafR l) (cntR l) = false) :
    Calls Try.prog 19 #[.slice A n c] w fun e w' => e = .returned (.tuple #[zeroNode, .int .i64 7]) ∧ Below w.heap.size w w' := by
  obtain ⟨b, off, x0, rfl, hI⟩ := rd_in hB h
  obtain ⟨hk0, hk1, hj0, hj1, hm0, hm1⟩ := hI.three
  have G := Lib.hid (rd_get (tree := treeR l) (leaf := leafR l) hB h)
  have BG := Lib.hid (rd_begin (w := w) (tree := treeR l) (leaf := leafR l) (cntR l) hI.tree hI.cnt)
  have PK := Lib.hid (rd_pack (w := w) (tree := treeR l) (leaf := leafR l) (cntR l) hI.tree hI.cnt)
  have HO := Lib.hid (fun W => holds_any (treeR l) (leafR l) (cntR l) W false (by have := hI.cnt; omega) hh)
  clear hh
  have ST := Lib.hid (RdN.start w (treeR l) (leafR l))
  have hlf := hI.leaf
  obtain ⟨ht0, ht1⟩ := hI.tree
  have hcn := hI.cnt
  have hcc := hI.cap
  have hcm := hI.most
  obtain rfl := hI.hn
  clear hB h hI
  generalize treeR l = tree at *
  generalize leafR l = leaf at *
  generalize cntR l = cnt at *
  subst hlf
  simp only [zN] at *
  go_enter Try.func19, Try.ntmps19
  go_wp2
  go_region
  generalize ((x0 : Int) == 1) = leaf at *
  generalize ((w.alloc (.cells #[.int .i64 0, .bool false, .slice none 0 0, .slice none 0 0] 25)).alloc (.cells #[.int .i64 tree, .bool leaf, .slice none 0 0, .slice none 0 0] 25)).drew = W1 at *
  clear hk0 hk1 hj0 hj1 hm0 hm1
  go_wp2_with (first
    | (go_at_call 28; (with_reducible refine (G.out _ ST.out).mono ?_); rintro e w1 ⟨rfl, hS1⟩; have q0 := hS1.node.c0; have q1 := hS1.node.c1)
    | (go_at_call 21; (with_reducible refine (BG.out _ hS1).mono ?_); rintro e w2 ⟨A2, c2, rfl, hF2, hS2⟩)
    | (go_at_call 22; (with_reducible refine (PK.out _ _ _ hS2 hF2).mono ?_); rintro e w3 ⟨A3, c3, rfl, hB3, hS3⟩; have HB3 := Lib.hid hB3; clear hB3; have p0 := hS3.node.c0; have p1 := hS3.node.c1; have z0 := hS3.zero.c0; have z1 := hS3.zero.c1; have z2 := hS3.zero.c2; have z3 := hS3.zero.c3; have y0 := Lib.frozen_of_heap hS3.zero 0; have y1 := Lib.frozen_of_heap hS3.zero 1; have y2 := Lib.frozen_of_heap hS3.zero 2; have y3 := Lib.frozen_of_heap hS3.zero 3)
    | (go_at_call 24; (with_reducible refine (HO.out _).mono ?_); rintro e w' ⟨rfl, rfl⟩))
  refine bodyPost_ret (results_nod Try.results19 _ _ w.heap.size 0 false (.slice none 0 0) (.slice none 0 0) rfl rfl rfl (hS3.zero.store _ _ _ _)) rfl ?_
  exact ⟨rfl, below_store7 hS3.bel (Nat.le_refl _) _ _ _ _⟩

set_option maxRecDepth 100000 in
set_option maxHeartbeats 1600000 in
theorem Read_prefix (w : World) (A : Option Addr) (n c : Nat) (l : List UInt8) (hB : Bytes8 w A n c l) (h : l.length = 244) (hh : holdsN (treeR l) (leafR l) (cntR l) = true) (hp : l.take 12 ≠ nodHeadB l) :
    Calls Try.prog 19 #[.slice A n c] w fun e w' => e = .returned (.tuple #[zeroNode, .int .i64 7]) ∧ Below w.heap.size w w' := by
  obtain ⟨b, off, x0, rfl, hI⟩ := rd_in hB h
  obtain ⟨hk0, hk1, hj0, hj1, hm0, hm1⟩ := hI.three
  have G := Lib.hid (rd_get (tree := treeR l) (leaf := leafR l) hB h)
  have BG := Lib.hid (rd_begin (w := w) (tree := treeR l) (leaf := leafR l) (cntR l) hI.tree hI.cnt)
  have PK := Lib.hid (rd_pack (w := w) (tree := treeR l) (leaf := leafR l) (cntR l) hI.tree hI.cnt)
  have HO := Lib.hid (fun W => holds_any (treeR l) (leafR l) (cntR l) W true (by have := hI.cnt; omega) hh)
  have HP := Lib.hid (rd_prefix (tree := treeR l) (leaf := leafR l) hB h _ false (decide_eq_false hp))
  clear hh hp
  simp only [nodHeadB] at HP
  have ST := Lib.hid (RdN.start w (treeR l) (leafR l))
  have hlf := hI.leaf
  obtain ⟨ht0, ht1⟩ := hI.tree
  have hcn := hI.cnt
  have hcc := hI.cap
  have hcm := hI.most
  obtain rfl := hI.hn
  clear hB h hI
  generalize treeR l = tree at *
  generalize leafR l = leaf at *
  generalize cntR l = cnt at *
  subst hlf
  simp only [zN] at *
  go_enter Try.func19, Try.ntmps19
  go_wp2
  go_region
  generalize ((x0 : Int) == 1) = leaf at *
  generalize ((w.alloc (.cells #[.int .i64 0, .bool false, .slice none 0 0, .slice none 0 0] 25)).alloc (.cells #[.int .i64 tree, .bool leaf, .slice none 0 0, .slice none 0 0] 25)).drew = W1 at *
  clear hk0 hk1 hj0 hj1 hm0 hm1
  go_wp2_with (first
    | (go_at_call 28; (with_reducible refine (G.out _ ST.out).mono ?_); rintro e w1 ⟨rfl, hS1⟩; have q0 := hS1.node.c0; have q1 := hS1.node.c1)
    | (go_at_call 21; (with_reducible refine (BG.out _ hS1).mono ?_); rintro e w2 ⟨A2, c2, rfl, hF2, hS2⟩)
    | (go_at_call 22; (with_reducible refine (PK.out _ _ _ hS2 hF2).mono ?_); rintro e w3 ⟨A3, c3, rfl, hB3, hS3⟩; have HB3 := Lib.hid hB3; clear hB3; have p0 := hS3.node.c0; have p1 := hS3.node.c1; have z0 := hS3.zero.c0; have z1 := hS3.zero.c1; have z2 := hS3.zero.c2; have z3 := hS3.zero.c3; have y0 := Lib.frozen_of_heap hS3.zero 0; have y1 := Lib.frozen_of_heap hS3.zero 1; have y2 := Lib.frozen_of_heap hS3.zero 2; have y3 := Lib.frozen_of_heap hS3.zero 3)
    | (go_at_call 24; (with_reducible refine (HO.out _).mono ?_); rintro e w' ⟨rfl, rfl⟩)
    | (go_at_call 29; (with_reducible refine (HP.out _ _ _ hS3 HB3.out).mono ?_); rintro e w' ⟨rfl, rfl⟩))
  refine bodyPost_ret (results_nod Try.results19 _ _ w.heap.size 0 false (.slice none 0 0) (.slice none 0 0) rfl rfl rfl (hS3.zero.store _ _ _ _)) rfl ?_
  exact ⟨rfl, below_store7 hS3.bel (Nat.le_refl _) _ _ _ _⟩

end Go.Proofs.Ytebcbaejpebpfaa
