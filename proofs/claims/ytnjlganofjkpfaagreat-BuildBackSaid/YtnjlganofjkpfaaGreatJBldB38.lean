/-
  Joined: NodG, NodH, NodIA, NodIB.
-/
import Derived.Laws.ResultCell
import Derived.Deep.RegionHeld3
import Derived.BigRegion
import Derived.Test.YtnjlganofjkpfaaGreatJBldB36
import Derived.Test.YtnjlganofjkpfaaGreatJBldB11
import Derived.Test.YtnjlganofjkpfaaGreatJBldB16
import Derived.WalkSmall
import Derived.BigQuiet
import Derived.Test.YtnjlganofjkpfaaGreatJBldB02
/-
  Layer 7's Read: what it asks of the form.
-/
namespace Go.Proofs.YtnjlganofjkpfaaGreat
open Go.RowKit
set_option linter.unusedVariables false
set_option linter.unusedSimpArgs false

/-! ### the form, as Read asks it -/
def nodHeadB (l : List UInt8) : List UInt8 := encs (beginF (treeR l) (leafR l) (cntR l))
def zkB (l : List UInt8) : Bool := zeroB ((l.drop (12 + 8 * cntR l)).take (8 * capR l - 8 * cntR l))
def zvB (l : List UInt8) : Bool := zeroB (l.drop (12 + 8 * capR l + widR l * cntR l))

theorem two_iff {x y : UInt8} {n : Nat} (h : n < 65536) : [UInt8.ofNat n, UInt8.ofNat (n / 256)] = [x, y] ↔ leN [x, y] = n := by
  constructor
  · intro e
    rw [← e]
    exact leN_encN 2 n (by simpa using h)
  · intro e
    rw [← e]
    exact two_back x y

theorem four_iff {x y z t : UInt8} : encN 4 0 = [x, y, z, t] ↔ leN [x, y, z, t] = 0 := by
  constructor
  · intro e
    rw [← e]
    rfl
  · intro e
    rw [← e]
    exact four_back x y z t

theorem head_iff {l : List UInt8} (h : l.length = 244) : l.take 12 = nodHeadB l ↔ (l.getD 0 0).toNat ≤ 1 ∧ at2 l 4 = widR l ∧ at2 l 6 = capR l ∧ leN ((l.drop 8).take 4) = 0 := by
  have hwc : widR l < 65536 ∧ capR l < 65536 := by
    have hc := widN_cases (treeR l) (leafR l)
    change (widR l = 0 ∧ capR l = 0) ∨ (widR l = 4 ∧ capR l = 18) ∨ (widR l = 8 ∧ capR l = 12) ∨ (widR l = 24 ∧ capR l = 6) ∨ (widR l = 16 ∧ capR l = 9) at hc
    rcases hc with ⟨a, c⟩ | ⟨a, c⟩ | ⟨a, c⟩ | ⟨a, c⟩ | ⟨a, c⟩ <;> rw [a, c] <;> omega
  have e : nodHeadB l = [if leafR l = true then 1 else 0] ++ ([UInt8.ofNat (treeR l).toNat] ++ ([UInt8.ofNat (cntR l), UInt8.ofNat (cntR l / 256)] ++ ([UInt8.ofNat (widR l), UInt8.ofNat (widR l / 256)] ++ ([UInt8.ofNat (capR l), UInt8.ofNat (capR l / 256)] ++ encN 4 0)))) := by
    cases hl : leafR l <;> simp [nodHeadB, beginF, encs, encN, hl, widR, capR]
  have e2 := (two_iff (x := l.getD 4 0) (y := l.getD 5 0) hwc.1)
  have e3 := (two_iff (x := l.getD 6 0) (y := l.getD 7 0) hwc.2)
  have e4 := (four_iff (x := l.getD 8 0) (y := l.getD 9 0) (z := l.getD 10 0) (t := l.getD 11 0))
  have ec : [UInt8.ofNat (cntR l), UInt8.ofNat (cntR l / 256)] = [l.getD 2 0, l.getD 3 0] := by
    match l, h with
    | x0 :: x1 :: x2 :: x3 :: r, _ => exact two_back x2 x3
  have et : UInt8.ofNat (treeR l).toNat = l.getD 1 0 := by simp [treeR]
  have el : (if leafR l = true then (1 : UInt8) else 0) = l.getD 0 0 ↔ (l.getD 0 0).toNat ≤ 1 := by
    constructor
    · intro h
      rw [← h]
      split <;> simp
    · intro h; exact bit_back h
  rw [e, ec, et]
  generalize (if leafR l = true then (1 : UInt8) else 0) = q0 at *
  have ew : at2 l 4 = leN [l.getD 4 0, l.getD 5 0] ∧ at2 l 6 = leN [l.getD 6 0, l.getD 7 0] ∧ leN ((l.drop 8).take 4) = leN [l.getD 8 0, l.getD 9 0, l.getD 10 0, l.getD 11 0] := by
    match l, h with
    | x0 :: x1 :: x2 :: x3 :: x4 :: x5 :: x6 :: x7 :: x8 :: x9 :: x10 :: x11 :: r, _ => exact ⟨rfl, rfl, rfl⟩
  rw [ew.1, ew.2.1, ew.2.2, ← e2, ← e3, ← e4, ← el]
  have e5 : l.take 12 = [l.getD 0 0, l.getD 1 0, l.getD 2 0, l.getD 3 0, l.getD 4 0, l.getD 5 0, l.getD 6 0, l.getD 7 0, l.getD 8 0, l.getD 9 0, l.getD 10 0, l.getD 11 0] := by
    match l, h with
    | x0 :: x1 :: x2 :: x3 :: x4 :: x5 :: x6 :: x7 :: x8 :: x9 :: x10 :: x11 :: r, _ => rfl
  rw [e5]
  change [l.getD 0 0, l.getD 1 0, l.getD 2 0, l.getD 3 0, l.getD 4 0, l.getD 5 0, l.getD 6 0, l.getD 7 0, l.getD 8 0, l.getD 9 0, l.getD 10 0, l.getD 11 0] = [q0, l.getD 1 0, l.getD 2 0, l.getD 3 0, UInt8.ofNat (widR l), UInt8.ofNat (widR l / 256), UInt8.ofNat (capR l), UInt8.ofNat (capR l / 256), 0, 0, 0, 0] ↔ q0 = l.getD 0 0 ∧ [UInt8.ofNat (widR l), UInt8.ofNat (widR l / 256)] = [l.getD 4 0, l.getD 5 0] ∧ [UInt8.ofNat (capR l), UInt8.ofNat (capR l / 256)] = [l.getD 6 0, l.getD 7 0] ∧ [0, 0, 0, 0] = [l.getD 8 0, l.getD 9 0, l.getD 10 0, l.getD 11 0]
  constructor
  · intro h
    simp only [List.cons.injEq, and_true] at h ⊢
    obtain ⟨h0, _, _, _, h4, h5, h6, h7, h8, h9, h10, h11⟩ := h
    exact ⟨h0.symm, ⟨h4.symm, h5.symm⟩, ⟨h6.symm, h7.symm⟩, h8.symm, h9.symm, h10.symm, h11.symm⟩
  · rintro ⟨h0, h1, h2, h3⟩
    simp only [List.cons.injEq, and_true] at h1 h2 h3 ⊢
    obtain ⟨h8, h9, h10, h11⟩ := h3
    exact ⟨h0.symm, trivial, trivial, trivial, h1.1.symm, h1.2.symm, h2.1.symm, h2.2.symm, h8.symm, h9.symm, h10.symm, h11.symm⟩

theorem form_iff {l : List UInt8} (h : l.length = 244) : FormN l ↔ (holdsN (treeR l) (leafR l) (cntR l) = true ∧ l.take 12 = nodHeadB l) ∧ zkB l = true ∧ zvB l = true := by
  rw [head_iff h]
  have hp := @capN_pos (treeR l) (leafR l)
  change 0 < capR l ↔ widR l ≠ 0 at hp
  have hh : holdsN (treeR l) (leafR l) (cntR l) = true ↔ widR l ≠ 0 ∧ cntR l ≤ capR l ∧ (leafR l = true ∨ cntR l ≠ 0) := by
    rw [← hp]
    change (decide (0 < capR l) && decide (cntR l ≤ capR l) && (leafR l || decide (0 < cntR l))) = true ↔ _
    simp only [Bool.and_eq_true, Bool.or_eq_true, decide_eq_true_eq, Nat.pos_iff_ne_zero, and_assoc]
  rw [hh]
  constructor
  · rintro ⟨_, h2, h3, h4, h5, h6, h7, h8, h9, h10⟩
    exact ⟨⟨⟨h3, h7, h8⟩, h2, h4, h5, h6⟩, h9, h10⟩
  · rintro ⟨⟨⟨h3, h7, h8⟩, h2, h4, h5, h6⟩, h9, h10⟩
    exact ⟨h, h2, h3, h4, h5, h6, h7, h8, h9, h10⟩

/-! ### nodes as results -/
theorem results_nod {fn : Func} {p u : Tmp} (h : fn.results = #[.cell p 70, .tmp u]) (tmps : Array Value) (w : World) (g : Nat) (tree : Int) (leaf : Bool) (s1 s2 : Value) (o1 : s1.oneCell' = true) (o2 : s2.oneCell' = true)
    (hp : tmps.getD p undef = .pointer (some ⟨g, 0, none⟩)) (hg : NodAt w g tree leaf s1 s2) : (results fn tmps).run Tryz.prog w = .ok (.tuple #[.agg #[.int .i64 tree, .bool leaf, s1, s2], tmps.getD u undef]) w := by
  rw [results_cell_tmp h, hp]
  simp [asAddr, run_loadVar_row w g _ _ _ _ _ hg Tryz.underlying70 rfl (by kernel_rfl), Result.andThen]

theorem NodAt.store {w : World} {g : Nat} {tree : Int} {leaf : Bool} {s1 s2 : Value} (h : NodAt w g tree leaf s1 s2) (tree' : Int) (leaf' : Bool) (s1' s2' : Value) :
    NodAt ((((w.setCell ⟨g, 0, none⟩ (.int .i64 tree')).setCell ⟨g, 1, none⟩ (.bool leaf')).setCell ⟨g, 2, none⟩ s1').setCell ⟨g, 3, none⟩ s2') g tree' leaf' s1' s2' := by
  unfold NodAt
  rw [heap_setCell_same _ g 3 _ _ _ (heap_setCell_same _ g 2 _ _ _ (heap_setCell_same _ g 1 _ _ _ (heap_setCell_same w g 0 _ _ _ h)))]
  rfl

theorem below_store7 {B g : Nat} {w0 w : World} (hb : Below B w0 w) (hg : B ≤ g) (v0 v1 v2 v3 : Value) : Below B w0 ((((w.setCell ⟨g, 0, none⟩ v0).setCell ⟨g, 1, none⟩ v1).setCell ⟨g, 2, none⟩ v2).setCell ⟨g, 3, none⟩ v3) :=
  (((hb.setCell (p := ⟨g, 0, none⟩) hg _).setCell (p := ⟨g, 1, none⟩) hg _).setCell (p := ⟨g, 2, none⟩) hg _).setCell (p := ⟨g, 3, none⟩) hg _

abbrev zeroNode : Value := .agg #[.int .i64 0, .bool false, .slice none 0 0, .slice none 0 0]
theorem zeroNode_eq : nodV Nod.zero none 0 0 none 0 0 = zeroNode := rfl

set_option maxRecDepth 100000 in
set_option maxHeartbeats 800000 in
theorem Read_len (w : World) (A : Option Addr) (n c : Nat) (l : List UInt8) (hB : Bytes8 w A n c l) (h : l.length ≠ 244) :
    Calls Tryz.prog 77 #[.slice A n c] w fun e w' => e = .returned (.tuple #[zeroNode, .int .i64 7]) ∧ Below w.heap.size w w' := by
  have hn := hB.le
  have hne : ((n : Int) != 244) = true := by rw [bne_iff_ne]; have := hB.len; omega
  have hz := NodAt.new w 0 false (.slice none 0 0) (.slice none 0 0)
  have hb : Below w.heap.size w (w.alloc (.cells #[.int .i64 0, .bool false, .slice none 0 0, .slice none 0 0] 70)) := (Below.refl _ _).alloc (Nat.le_refl _) _
  clear hB h
  go_enter Tryz.func77, Tryz.ntmps77
  go_wp2
  refine bodyPost_ret (results_nod Tryz.results77 _ _ w.heap.size 0 false (.slice none 0 0) (.slice none 0 0) rfl rfl rfl hz) rfl ?_
  exact ⟨rfl, hb⟩

/-- the result's variable and the node's, all below as it was -/
structure RdN (w0 w : World) (tree : Int) (leaf : Bool) : Prop where
  zero : NodAt w w0.heap.size 0 false (.slice none 0 0) (.slice none 0 0)
  node : NodAt w (w0.heap.size + 1) tree leaf (.slice none 0 0) (.slice none 0 0)
  bel : Below w0.heap.size w0 w
theorem RdN.later {w0 w w' : World} {tree : Int} {leaf : Bool} (h : RdN w0 w tree leaf) (hb : Below w.heap.size w w') : RdN w0 w' tree leaf := ⟨h.zero.later hb, h.node.later hb, h.bel.trans (hb.mono h.bel.size)⟩

abbrev zN : Obj := .cells #[.int .i64 0, .bool false, .slice none 0 0, .slice none 0 0] 70

theorem RdN.start (w : World) (tree : Int) (leaf : Bool) : RdN w ((w.alloc zN).alloc (.cells #[.int .i64 tree, .bool leaf, .slice none 0 0, .slice none 0 0] 70)).drew tree leaf := by
  obtain ⟨h1, h2, h3⟩ := two_nodes w Nod.zero ⟨tree, leaf, [], []⟩ (.slice none 0 0) (.slice none 0 0) (.slice none 0 0) (.slice none 0 0)
  exact ⟨h1, h2, h3.drew⟩

/-- what the walks of Read know at the start -/
structure RdIn (w : World) (b off n c : Nat) (l : List UInt8) (x0 : Nat) : Prop where
  hn : n = 244
  cap : 244 ≤ c
  most : c ≤ 9223372036854775807
  k0 : w.cell? ⟨b, off, none⟩ = some (.int .u8 (x0 : Int))
  k1 : w.cell? ⟨b, off + 1, none⟩ = some (.int .u8 (treeR l))
  hb : b < w.heap.size
  leaf : ((x0 : Int) == 1) = leafR l
  tree : 0 ≤ treeR l ∧ treeR l ≤ 255
  cnt : cntR l ≤ 65535

/-- the first two bytes, at three worlds -/
theorem RdIn.three {w : World} {b off n c x0 : Nat} {l : List UInt8} (h : RdIn w b off n c l x0) :
    (w.alloc zN).cell? ⟨b, off, none⟩ = some (.int .u8 (x0 : Int)) ∧ (w.alloc zN).cell? ⟨b, off + 1, none⟩ = some (.int .u8 (treeR l)) ∧
    ((w.alloc zN).alloc zN).cell? ⟨b, off, none⟩ = some (.int .u8 (x0 : Int)) ∧ ((w.alloc zN).alloc zN).cell? ⟨b, off + 1, none⟩ = some (.int .u8 (treeR l)) ∧
    ((w.alloc zN).alloc (.cells #[.int .i64 (treeR l), .bool (leafR l), .slice none 0 0, .slice none 0 0] 70)).cell? ⟨b, off, none⟩ = some (.int .u8 (x0 : Int)) ∧ ((w.alloc zN).alloc (.cells #[.int .i64 (treeR l), .bool (leafR l), .slice none 0 0, .slice none 0 0] 70)).cell? ⟨b, off + 1, none⟩ = some (.int .u8 (treeR l)) := by
  have h0 : Below w.heap.size w (w.alloc zN) := (Below.refl _ _).alloc (Nat.le_refl _) _
  have h1 : ∀ o, Below w.heap.size w ((w.alloc zN).alloc o) := fun o => h0.alloc h0.size _
  exact ⟨(h0.cell (p := ⟨b, off, none⟩) h.hb).trans h.k0, (h0.cell (p := ⟨b, off + 1, none⟩) h.hb).trans h.k1, ((h1 _).cell (p := ⟨b, off, none⟩) h.hb).trans h.k0, ((h1 _).cell (p := ⟨b, off + 1, none⟩) h.hb).trans h.k1, ((h1 _).cell (p := ⟨b, off, none⟩) h.hb).trans h.k0, ((h1 _).cell (p := ⟨b, off + 1, none⟩) h.hb).trans h.k1⟩

theorem rd_in {w : World} {A : Option Addr} {n c : Nat} {l : List UInt8} (hB : Bytes8 w A n c l) (h : l.length = 244) : ∃ b off x0, A = some ⟨b, off, none⟩ ∧ RdIn w b off n c l x0 := by
  have hn := hB.len
  obtain ⟨b, off, rfl, hb, hc⟩ := hB.row.lit (by rw [u8s_length]; omega)
  have c0 := hc 0 _ (u8s_at l 0 (by omega))
  have c1 := hc 1 _ (u8s_at l 1 (by omega))
  have e1 : treeR l = (l[1].toNat : Int) := by simp [treeR, List.getD_eq_getElem?_getD, h]
  have e0 : leafR l = (l[0] == 1) := by simp [leafR, List.getD_eq_getElem?_getD, h]
  refine ⟨b, off, l[0].toNat, rfl, by omega, by have := hB.cap; omega, hB.most, c0, by rw [e1]; exact c1, hb, ?_, ?_, ?_⟩
  · rw [e0, Bool.eq_iff_iff, beq_iff_eq, beq_iff_eq]
    constructor
    · intro e; apply UInt8.toNat_inj.1; simp; omega
    · intro e; rw [e]; rfl
  · rw [e1]; have := UInt8.toNat_lt l[1]; omega
  · have := leN_lt ((l.drop 2).take 2)
    simp only [List.length_take, List.length_drop, h] at this
    change cntR l < 256 ^ 2 at this
    omega

theorem headF_ok (tree : Int) (leaf : Bool) (cnt : Nat) (ht : 0 ≤ tree ∧ tree ≤ 255) (hc : cnt ≤ 65535) : packE (beginF tree leaf cnt) = 0 := by
  have hwc : widN tree leaf ≤ 24 ∧ capN (widN tree leaf) ≤ 18 := by rcases widN_cases tree leaf with ⟨a, b⟩ | ⟨a, b⟩ | ⟨a, b⟩ | ⟨a, b⟩ | ⟨a, b⟩ <;> rw [b, a] <;> omega
  obtain ⟨hw1, hw2⟩ := hwc
  have f1 : fitsB (if leaf = true then 1 else 0) 1 = true := by cases leaf <;> rfl
  have f2 : fitsB tree 1 = true := by simp [fitsB]; omega
  have f3 : fitsB (cnt : Int) 2 = true := by simp [fitsB]; omega
  have f4 : fitsB (widN tree leaf : Int) 2 = true := by simp [fitsB]; omega
  have f5 : fitsB (capN (widN tree leaf) : Int) 2 = true := by simp [fitsB]; omega
  have f6 : fitsB 0 4 = true := by rfl
  simp [beginF, packE, isW, f1, f2, f3, f4, f5, f6]

theorem rd_prefix {w : World} {A : Option Addr} {n c : Nat} {l : List UInt8} {tree : Int} {leaf : Bool} (hB : Bytes8 w A n c l) (h : l.length = 244) (hd : List UInt8) (r : Bool) (hr : decide (l.take 12 = hd) = r) (W : World) (A' : Option Addr) (c' : Nat) (hW : RdN w W tree leaf) (h2 : Bytes8 W A' 12 c' hd) :
    Calls Tryz.prog 91 #[.slice A n c, .slice A' 12 c'] W fun e w' => e = .returned (.bool r) ∧ W = w' :=
  HasPrefix_any A n c l A' 12 c' hd W (hB.below hW.bel) h2 (by have := hB.len; omega) r hr

/-- Get, begin and Pack in Read -/
theorem rd_get {w : World} {A : Option Addr} {n c : Nat} {l : List UInt8} {tree : Int} {leaf : Bool} (hB : Bytes8 w A n c l) (h : l.length = 244) (W : World) (hW : RdN w W tree leaf) :
    Calls Tryz.prog 90 #[.slice A n c, .int .i64 2, .int .i64 2] W fun e w' => e = .returned (.tuple #[.int .i64 (cntR l), .int .i64 0]) ∧ RdN w w' tree leaf := by
  have g := (get_in (l := l) (wd := 2) 2 (by decide) (by rw [h]; decide)).1 (small_le (k := 2) (by omega) (by rw [List.length_take]; exact Nat.min_le_left _ _))
  refine (Get_any A n c l 2 2 W (hB.below hW.bel) (by omega)).mono ?_
  rintro e w' ⟨rfl, hb⟩
  exact ⟨by rw [show getE l 2 2 = 0 from g.1, show getN l 2 2 = (cntR l : Int) from g.2], hW.later hb⟩

theorem rd_begin {w : World} {tree : Int} {leaf : Bool} (cnt : Nat) (ht : 0 ≤ tree ∧ tree ≤ 255) (hc : cnt ≤ 65535) (W : World) (hW : RdN w W tree leaf) :
    Calls Tryz.prog 51 #[.int .i64 tree, .bool leaf, .int .i64 cnt] W fun e w' => ∃ A' c', e = .returned (.slice A' 6 c') ∧ Flds w' A' 6 c' (beginF tree leaf cnt) ∧ RdN w w' tree leaf := by
  refine (begin_any tree leaf cnt W W.heap.size (Nat.le_refl _)).mono ?_
  rintro e w' ⟨v', rfl, ho, hb⟩
  obtain ⟨A', c', rfl, hF⟩ := Flds.of_own7 ho (begin_bds (by simp only [i64b]; omega) (by simp only [i64b]; omega)) rfl
  exact ⟨A', c', rfl, hF, hW.later hb⟩

theorem rd_pack {w : World} {tree : Int} {leaf : Bool} (cnt : Nat) (ht : 0 ≤ tree ∧ tree ≤ 255) (hc : cnt ≤ 65535) (W : World) (A : Option Addr) (c : Nat) (hW : RdN w W tree leaf) (hF : Flds W A 6 c (beginF tree leaf cnt)) :
    Calls Tryz.prog 52 #[.slice A 6 c] W fun e w' => ∃ A' c', e = .returned (.tuple #[.slice A' 12 c', .int .i64 0]) ∧ Bytes8 w' A' 12 c' (encs (beginF tree leaf cnt)) ∧ RdN w w' tree leaf := by
  refine (Pack_any A 6 c _ W hF (by omega)).mono ?_
  rintro e w' ⟨A', m, c', rfl, hB, hb⟩
  have e0 := headF_ok tree leaf cnt ht hc
  rw [packB, if_pos e0] at hB
  have hl : (encs (beginF tree leaf cnt)).length = 12 := by simp [beginF, encs, encN_length]
  obtain rfl : 12 = m := by have := hB.len; rw [hl] at this; exact this
  exact ⟨A', c', by rw [e0], hB, hW.later hb⟩

set_option maxRecDepth 100000 in
set_option maxHeartbeats 1600000 in
theorem Read_holds (w : World) (A : Option Addr) (n c : Nat) (l : List UInt8) (hB : Bytes8 w A n c l) (h : l.length = 244) (hh : holdsN (treeR l) (leafR l) (cntR l) = false) :
    Calls Tryz.prog 77 #[.slice A n c] w fun e w' => e = .returned (.tuple #[zeroNode, .int .i64 7]) ∧ Below w.heap.size w w' := by
  obtain ⟨b, off, x0, rfl, hI⟩ := rd_in hB h
  obtain ⟨hk0, hk1, hj0, hj1, hm0, hm1⟩ := hI.three
  have G := Lib.hid (rd_get (tree := treeR l) (leaf := leafR l) hB h)
  have BG := Lib.hid (rd_begin (w := w) (tree := treeR l) (leaf := leafR l) (cntR l) hI.tree hI.cnt)
  have PK := Lib.hid (rd_pack (w := w) (tree := treeR l) (leaf := leafR l) (cntR l) hI.tree hI.cnt)
  have HO := Lib.hid (fun W => holds_any (treeR l) (leafR l) (cntR l) W false (by have := hI.cnt; omega) hh)
  clear hh
  have ST := Lib.hid (RdN.start w (treeR l) (leafR l))
  have hlf := hI.leaf
  obtain ⟨ht0, ht1⟩ := hI.tree
  have hcn := hI.cnt
  have hcc := hI.cap
  have hcm := hI.most
  obtain rfl := hI.hn
  clear hB h hI
  generalize treeR l = tree at *
  generalize leafR l = leaf at *
  generalize cntR l = cnt at *
  subst hlf
  simp only [zN] at *
  go_enter Tryz.func77, Tryz.ntmps77
  go_wp2
  go_region
  generalize ((x0 : Int) == 1) = leaf at *
  generalize ((w.alloc (.cells #[.int .i64 0, .bool false, .slice none 0 0, .slice none 0 0] 70)).alloc (.cells #[.int .i64 tree, .bool leaf, .slice none 0 0, .slice none 0 0] 70)).drew = W1 at *
  clear hk0 hk1 hj0 hj1 hm0 hm1
  go_wp2_with (first
    | (go_at_call 90; (with_reducible refine (G.out _ ST.out).mono ?_); rintro e w1 ⟨rfl, hS1⟩; have q0 := hS1.node.c0; have q1 := hS1.node.c1)
    | (go_at_call 51; (with_reducible refine (BG.out _ hS1).mono ?_); rintro e w2 ⟨A2, c2, rfl, hF2, hS2⟩)
    | (go_at_call 52; (with_reducible refine (PK.out _ _ _ hS2 hF2).mono ?_); rintro e w3 ⟨A3, c3, rfl, hB3, hS3⟩; have HB3 := Lib.hid hB3; clear hB3; have p0 := hS3.node.c0; have p1 := hS3.node.c1; have z0 := hS3.zero.c0; have z1 := hS3.zero.c1; have z2 := hS3.zero.c2; have z3 := hS3.zero.c3; have y0 := Lib.frozen_of_heap hS3.zero 0; have y1 := Lib.frozen_of_heap hS3.zero 1; have y2 := Lib.frozen_of_heap hS3.zero 2; have y3 := Lib.frozen_of_heap hS3.zero 3)
    | (go_at_call 64; (with_reducible refine (HO.out _).mono ?_); rintro e w' ⟨rfl, rfl⟩))
  refine bodyPost_ret (results_nod Tryz.results77 _ _ w.heap.size 0 false (.slice none 0 0) (.slice none 0 0) rfl rfl rfl (hS3.zero.store _ _ _ _)) rfl ?_
  exact ⟨rfl, below_store7 hS3.bel (Nat.le_refl _) _ _ _ _⟩

set_option maxRecDepth 100000 in
set_option maxHeartbeats 1600000 in
theorem Read_prefix (w : World) (A : Option Addr) (n c : Nat) (l : List UInt8) (hB : Bytes8 w A n c l) (h : l.length = 244) (hh : holdsN (treeR l) (leafR l) (cntR l) = true) (hp : l.take 12 ≠ nodHeadB l) :
    Calls Tryz.prog 77 #[.slice A n c] w fun e w' => e = .returned (.tuple #[zeroNode, .int .i64 7]) ∧ Below w.heap.size w w' := by
  obtain ⟨b, off, x0, rfl, hI⟩ := rd_in hB h
  obtain ⟨hk0, hk1, hj0, hj1, hm0, hm1⟩ := hI.three
  have G := Lib.hid (rd_get (tree := treeR l) (leaf := leafR l) hB h)
  have BG := Lib.hid (rd_begin (w := w) (tree := treeR l) (leaf := leafR l) (cntR l) hI.tree hI.cnt)
  have PK := Lib.hid (rd_pack (w := w) (tree := treeR l) (leaf := leafR l) (cntR l) hI.tree hI.cnt)
  have HO := Lib.hid (fun W => holds_any (treeR l) (leafR l) (cntR l) W true (by have := hI.cnt; omega) hh)
  have HP := Lib.hid (rd_prefix (tree := treeR l) (leaf := leafR l) hB h _ false (decide_eq_false hp))
  clear hh hp
  simp only [nodHeadB] at HP
  have ST := Lib.hid (RdN.start w (treeR l) (leafR l))
  have hlf := hI.leaf
  obtain ⟨ht0, ht1⟩ := hI.tree
  have hcn := hI.cnt
  have hcc := hI.cap
  have hcm := hI.most
  obtain rfl := hI.hn
  clear hB h hI
  generalize treeR l = tree at *
  generalize leafR l = leaf at *
  generalize cntR l = cnt at *
  subst hlf
  simp only [zN] at *
  go_enter Tryz.func77, Tryz.ntmps77
  go_wp2
  go_region
  generalize ((x0 : Int) == 1) = leaf at *
  generalize ((w.alloc (.cells #[.int .i64 0, .bool false, .slice none 0 0, .slice none 0 0] 70)).alloc (.cells #[.int .i64 tree, .bool leaf, .slice none 0 0, .slice none 0 0] 70)).drew = W1 at *
  clear hk0 hk1 hj0 hj1 hm0 hm1
  go_wp2_with (first
    | (go_at_call 90; (with_reducible refine (G.out _ ST.out).mono ?_); rintro e w1 ⟨rfl, hS1⟩; have q0 := hS1.node.c0; have q1 := hS1.node.c1)
    | (go_at_call 51; (with_reducible refine (BG.out _ hS1).mono ?_); rintro e w2 ⟨A2, c2, rfl, hF2, hS2⟩)
    | (go_at_call 52; (with_reducible refine (PK.out _ _ _ hS2 hF2).mono ?_); rintro e w3 ⟨A3, c3, rfl, hB3, hS3⟩; have HB3 := Lib.hid hB3; clear hB3; have p0 := hS3.node.c0; have p1 := hS3.node.c1; have z0 := hS3.zero.c0; have z1 := hS3.zero.c1; have z2 := hS3.zero.c2; have z3 := hS3.zero.c3; have y0 := Lib.frozen_of_heap hS3.zero 0; have y1 := Lib.frozen_of_heap hS3.zero 1; have y2 := Lib.frozen_of_heap hS3.zero 2; have y3 := Lib.frozen_of_heap hS3.zero 3)
    | (go_at_call 64; (with_reducible refine (HO.out _).mono ?_); rintro e w' ⟨rfl, rfl⟩)
    | (go_at_call 91; (with_reducible refine (HP.out _ _ _ hS3 HB3.out).mono ?_); rintro e w' ⟨rfl, rfl⟩))
  refine bodyPost_ret (results_nod Tryz.results77 _ _ w.heap.size 0 false (.slice none 0 0) (.slice none 0 0) rfl rfl rfl (hS3.zero.store _ _ _ _)) rfl ?_
  exact ⟨rfl, below_store7 hS3.bel (Nat.le_refl _) _ _ _ _⟩

end Go.Proofs.YtnjlganofjkpfaaGreat

/-
  Layer 7's Read: what its loop keeps.
-/
namespace Go.Proofs.YtnjlganofjkpfaaGreat
open Go.RowKit
set_option linter.unusedVariables false
set_option linter.unusedSimpArgs false

theorem sub_bytes {w : World} {b off n c : Nat} {l : List UInt8} (h : Bytes8 w (some ⟨b, off, none⟩) n c l) (i m c' : Nat) (hi : i + m ≤ n) (hm : m ≤ c') (hc : c' ≤ 9223372036854775807) : Bytes8 w (some ⟨b, off + i, none⟩) m c' ((l.drop i).take m) := by
  refine ⟨by rw [List.length_take, List.length_drop, h.len]; omega, hm, hc, ?_⟩
  have := (h.row.drop i).take m
  simp only [Option.map_some, Addr.add_lit] at this
  rwa [u8s_drop, u8s_take] at this

theorem nod_own_other {w w' : World} {base : Nat} {e : TypeId} {v : Value} {n : Nat} {xs : List Value} (h : w.ownsRow base e 1 v n xs) (hk : ∀ k, v.ownBlock = some k → w'.heap[k]? = w.heap[k]?) : w'.ownsRow base e 1 v n xs := by
  refine ⟨h.1, ?_⟩
  rcases h.2 with hn | ⟨g, cap, cur, hv, hg, hh, rest⟩
  · exact .inl hn
  · refine .inr ⟨g, cap, cur, hv, hg, (hk g ?_).trans hh, rest⟩
    rw [hv]
    rfl

/-- what the loop keeps: i keys and j values so far -/
structure LpN (w0 w : World) (tree : Int) (leaf : Bool) (i : Nat) (Ak : Option Addr) (ck : Nat) (j : Nat) (Av : Option Addr) (cv : Nat) (ks : List Int) (vs : List (List UInt8)) : Prop where
  zero : NodAt w w0.heap.size 0 false (.slice none 0 0) (.slice none 0 0)
  node : NodAt w (w0.heap.size + 1) tree leaf (.slice Ak i ck) (.slice Av j cv)
  bel : Below w0.heap.size w0 w
  ok : w.ownsRow (w0.heap.size + 2) 3 1 (.slice Ak i ck) i (i64s ks)
  ov : w.ownsRow (w0.heap.size + 2) 9 1 (.slice Av j cv) j (strV vs)

section
variable {w0 w w' : World} {tree : Int} {leaf : Bool} {i j ck cv : Nat} {Ak Av : Option Addr} {ks : List Int} {vs : List (List UInt8)}

theorem LpN.low (h : LpN w0 w tree leaf i Ak ck j Av cv ks vs) : w0.heap.size + 2 ≤ w.heap.size := by have := block_lt h.node; omega
theorem LpN.later (h : LpN w0 w tree leaf i Ak ck j Av cv ks vs) (hb : Below w.heap.size w w') : LpN w0 w' tree leaf i Ak ck j Av cv ks vs :=
  ⟨h.zero.later hb, h.node.later hb, h.bel.trans (hb.mono h.bel.size), own_kept h.ok (fun k _ hk => hb.block k hk), own_kept h.ov (fun k _ hk => hb.block k hk)⟩
theorem RdN.loop (h : RdN w0 w tree leaf) : LpN w0 w tree leaf 0 none 0 0 none 0 [] [] := ⟨h.zero, h.node, h.bel, World.ownsRow_nil _ _ _ _, World.ownsRow_nil _ _ _ _⟩

theorem LpN.apart (h : LpN w0 w tree leaf i Ak ck j Av cv ks vs) (g : Nat) (hk : (Value.slice Ak i ck).ownBlock = some g) : (Value.slice Av j cv).ownBlock ≠ some g := fun hv => by
  obtain ⟨_, c1, h1⟩ := own_apart h.ok g hk
  obtain ⟨_, c2, h2⟩ := own_apart h.ov g hv
  rw [h1] at h2
  injection h2 with h2
  injection h2 with _ h3 _
  exact absurd h3 (by decide)

/-- one more key -/
theorem LpN.addKey (h : LpN w0 w tree leaf i Ak ck j Av cv ks vs) {v' : Value} {key : Int} (hown : w'.ownsRow (w0.heap.size + 2) 3 1 v' (i + 1) (i64s ks ++ [.int .i64 key])) (hg : w.grownBy w' (Value.slice Ak i ck).ownBlock) :
    ∃ Ak' ck', v' = .slice Ak' (i + 1) ck' ∧ NodAt w' (w0.heap.size + 1) tree leaf (.slice Ak i ck) (.slice Av j cv) ∧ LpN w0 (w'.setCell ⟨w0.heap.size + 1, 2, none⟩ (.slice Ak' (i + 1) ck')) tree leaf (i + 1) Ak' ck' j Av cv (ks ++ [key]) vs := by
  obtain ⟨Ak', ck', rfl, _, _⟩ := ownsRow_form hown
  have hlow := h.low
  have keep : ∀ g, g < w0.heap.size + 2 → w'.heap[g]? = w.heap[g]? := fun g hlt => hg.block g (by omega) (fun e => by have := (own_apart h.ok g e.symm).1; omega)
  have hn : NodAt w' (w0.heap.size + 1) tree leaf (.slice Ak i ck) (.slice Av j cv) := (keep _ (by omega)).trans h.node
  refine ⟨Ak', ck', rfl, hn, ?_, ?_, ?_, ?_, ?_⟩
  · unfold NodAt
    rw [heap_setCell_other _ _ w0.heap.size _ (by simp)]
    exact (keep _ (by omega)).trans h.zero
  · unfold NodAt
    rw [heap_setCell_same _ _ 2 _ _ _ hn]
    rfl
  · refine Below.setCell ?_ (p := ⟨w0.heap.size + 1, 2, none⟩) (by simp) _
    exact h.bel.trans ⟨hg.os, hg.tape, hg.output, hg.size, fun k hk => keep k (by omega)⟩
  · have e : i64s (ks ++ [key]) = i64s ks ++ [.int .i64 key] := i64s_append _ _
    rw [e]
    refine nod_own_other hown fun k hk => ?_
    have := (own_apart hown k hk).1
    exact heap_setCell_other _ _ _ _ (by simp; omega)
  · refine nod_own_other h.ov fun k hk => ?_
    have h1 := own_apart h.ov k hk
    rw [heap_setCell_other _ _ _ _ (by simp; omega)]
    obtain ⟨hb, cur, hc⟩ := h1
    exact hg.block k (block_lt hc) (fun e => h.apart k e.symm hk)

/-- one more value -/
theorem LpN.addVal (h : LpN w0 w tree leaf i Ak ck j Av cv ks vs) {v' : Value} {s : List UInt8} (hown : w'.ownsRow (w0.heap.size + 2) 9 1 v' (j + 1) (strV vs ++ [.string ⟨s.toArray⟩])) (hg : w.grownBy w' (Value.slice Av j cv).ownBlock) :
    ∃ Av' cv', v' = .slice Av' (j + 1) cv' ∧ NodAt w' (w0.heap.size + 1) tree leaf (.slice Ak i ck) (.slice Av j cv) ∧ LpN w0 (w'.setCell ⟨w0.heap.size + 1, 3, none⟩ (.slice Av' (j + 1) cv')) tree leaf i Ak ck (j + 1) Av' cv' ks (vs ++ [s]) := by
  obtain ⟨Av', cv', rfl, _, _⟩ := ownsRow_form hown
  have hlow := h.low
  have keep : ∀ g, g < w0.heap.size + 2 → w'.heap[g]? = w.heap[g]? := fun g hlt => hg.block g (by omega) (fun e => by have := (own_apart h.ov g e.symm).1; omega)
  have hn : NodAt w' (w0.heap.size + 1) tree leaf (.slice Ak i ck) (.slice Av j cv) := (keep _ (by omega)).trans h.node
  refine ⟨Av', cv', rfl, hn, ?_, ?_, ?_, ?_, ?_⟩
  · unfold NodAt
    rw [heap_setCell_other _ _ w0.heap.size _ (by simp)]
    exact (keep _ (by omega)).trans h.zero
  · unfold NodAt
    rw [heap_setCell_same _ _ 3 _ _ _ hn]
    rfl
  · refine Below.setCell ?_ (p := ⟨w0.heap.size + 1, 3, none⟩) (by simp) _
    exact h.bel.trans ⟨hg.os, hg.tape, hg.output, hg.size, fun k hk => keep k (by omega)⟩
  · refine nod_own_other h.ok fun k hk => ?_
    have h1 := own_apart h.ok k hk
    rw [heap_setCell_other _ _ _ _ (by simp; omega)]
    obtain ⟨hb, cur, hc⟩ := h1
    exact hg.block k (block_lt hc) (fun e => h.apart k hk e.symm)
  · have e : strV (vs ++ [s]) = strV vs ++ [.string ⟨s.toArray⟩] := strV_append _ _
    rw [e]
    refine nod_own_other hown fun k hk => ?_
    have := (own_apart hown k hk).1
    exact heap_setCell_other _ _ _ _ (by simp; omega)

/-- the node that has been read -/
theorem LpN.finish (h : LpN w0 w tree leaf i Ak ck i Av cv ks vs) (ht : i64b tree) (hk : ∀ k ∈ ks, i64b k) (hv : ∀ v ∈ vs, v.length ≤ 9223372036854775807) (hI : i = ks.length) (v0 v1 v2 v3 : Value) :
    NodIn ((((w.setCell ⟨w0.heap.size, 0, none⟩ v0).setCell ⟨w0.heap.size, 1, none⟩ v1).setCell ⟨w0.heap.size, 2, none⟩ v2).setCell ⟨w0.heap.size, 3, none⟩ v3) ⟨tree, leaf, ks, vs⟩ Ak i ck Av i cv := by
  have keep : ∀ k, w0.heap.size + 2 ≤ k → ((((w.setCell ⟨w0.heap.size, 0, none⟩ v0).setCell ⟨w0.heap.size, 1, none⟩ v1).setCell ⟨w0.heap.size, 2, none⟩ v2).setCell ⟨w0.heap.size, 3, none⟩ v3).heap[k]? = w.heap[k]? := fun k hk => by
    rw [heap_setCell_other _ _ _ _ (by simp; omega), heap_setCell_other _ _ _ _ (by simp; omega), heap_setCell_other _ _ _ _ (by simp; omega), heap_setCell_other _ _ _ _ (by simp; omega)]
  have o1 := own_kept h.ok (fun k hk _ => keep k hk)
  have o2 := own_kept h.ov (fun k hk _ => keep k hk)
  obtain ⟨A1, c1, e1, h1⟩ := Ints.of_own o1
  obtain ⟨A2, c2, e2, h2⟩ := Strs.of_own o2
  injection e1 with e1 _ e3
  injection e2 with e2 _ e4
  subst e1; subst e2; subst e3; subst e4
  exact ⟨h1, h2, ht, hk, hv⟩
end

/-! ### what the loop of Read finds -/
def keysR (l : List UInt8) : List Nat := (List.range (cntR l)).map (keyR l)
def valsR (l : List UInt8) : List (List UInt8) := (List.range (cntR l)).map (valR l)
def intsR (l : List UInt8) : List Int := (keysR l).map fun k : Nat => (k : Int)
theorem keysR_len (l : List UInt8) : (keysR l).length = cntR l := by simp [keysR]
theorem intsR_len (l : List UInt8) : (intsR l).length = cntR l := by simp [intsR, keysR]
theorem valsR_len (l : List UInt8) : (valsR l).length = cntR l := by simp [valsR]
theorem nodR_parts (l : List UInt8) : nodR l = ⟨treeR l, leafR l, intsR l, valsR l⟩ := by
  simp only [nodR, intsR, keysR, valsR, List.map_map]
  rfl
theorem readNE_form {l : List UInt8} (h : formN l = true) : readNE l = keyErr (-1) (keysR l) := by
  rw [readNE, if_pos h]; rfl
theorem readNE_bad {l : List UInt8} (h : ¬ formN l = true) : readNE l = 7 ∧ readN l = Nod.zero := by
  have : readNE l = 7 := by rw [readNE, if_neg h]
  exact ⟨this, by rw [readN, if_neg (by rw [this]; omega)]⟩

theorem keysR_at {l : List UInt8} {k : Nat} (hk : k < cntR l) : (keysR l)[k]'(by rw [keysR_len]; exact hk) = keyR l k := by simp [keysR]
theorem intsR_at {l : List UInt8} {k : Nat} (hk : k < cntR l) : (intsR l).take (k + 1) = (intsR l).take k ++ [(keyR l k : Int)] := by
  rw [List.take_succ_eq_append_getElem (by rw [intsR_len]; exact hk)]
  simp [intsR, keysR]
theorem valsR_at {l : List UInt8} {k : Nat} (hk : k < cntR l) : (valsR l).take (k + 1) = (valsR l).take k ++ [valR l k] := by
  rw [List.take_succ_eq_append_getElem (by rw [valsR_len]; exact hk)]
  simp [valsR]

/-- the loop's test of key k -/
theorem key_test {l : List UInt8} {k : Nat} (hk : k < cntR l) (h0 : keyErr (-1) ((keysR l).take k) = 0) :
    keyErr (-1) ((keysR l).take (k + 1)) = followsE (keyR l k) (prevK (-1) (intsR l) k + 1) ∧ -1 ≤ prevK (-1) (intsR l) k ∧ prevK (-1) (intsR l) k ≤ maxK ∧ prevK (-1) (intsR l) (k + 1) = (keyR l k : Int) := by
  have hkl : k < (keysR l).length := by rw [keysR_len]; exact hk
  have hki : k < (intsR l).length := by rw [intsR_len]; exact hk
  have hs := keyErr_step hkl h0
  rw [keysR_at hk] at hs
  have hu := keyErr_up.1 h0
  rw [List.map_take] at hu
  have hb := prevK_bd (l := intsR l) (Nat.le_of_lt hki) hu
  refine ⟨?_, hb.1, hb.2, ?_⟩
  · rw [hs]
    change (if maxK < (keyR l k : Int) then (2 : Int) else if (keyR l k : Int) ≤ prevK (-1) (intsR l) k then 8 else 0) = followsE (keyR l k) (prevK (-1) (intsR l) k + 1)
    unfold followsE maxK
    by_cases c1 : (281474976710655 : Int) < (keyR l k : Int)
    · rw [if_pos c1, if_pos (show (keyR l k : Int) < 0 ∨ (281474976710655 : Int) < (keyR l k : Int) from .inr c1)]
    · rw [if_neg c1, if_neg (show ¬ ((keyR l k : Int) < 0 ∨ (281474976710655 : Int) < (keyR l k : Int)) by omega)]
      by_cases c2 : (keyR l k : Int) ≤ prevK (-1) (intsR l) k
      · rw [if_pos c2, if_pos (show (keyR l k : Int) < prevK (-1) (intsR l) k + 1 by omega)]
      · rw [if_neg c2, if_neg (show ¬ (keyR l k : Int) < prevK (-1) (intsR l) k + 1 by omega)]
  · rw [prevK_succ hki]
    simp [intsR, keysR]

theorem key_end {l : List UInt8} {k : Nat} {e : Int} (hf : formN l = true) (h : keyErr (-1) ((keysR l).take (k + 1)) = e) (he : e ≠ 0) : readNE l = e ∧ readN l = Nod.zero := by
  have : readNE l = e := by rw [readNE_form hf, keyErr_take (k + 1) (by rw [h]; exact he), h]
  exact ⟨this, by rw [readN, if_neg (by rw [this]; exact he)]⟩

theorem Width_q (tree : Int) (leaf : Bool) (w : World) (r : Nat) (hr : widN tree leaf = r) : Calls Tryz.prog 28 #[.int .i64 tree, .bool leaf] w fun e w' => e = .returned (.int .i64 (r : Int)) ∧ w' = w :=
  (Width_any tree leaf w r hr).mono fun _ _ h => ⟨h.1, h.2.symm⟩
theorem Max_q (tree : Int) (leaf : Bool) (w : World) (r : Nat) (hr : capN (widN tree leaf) = r) : Calls Tryz.prog 22 #[.int .i64 tree, .bool leaf] w fun e w' => e = .returned (.int .i64 (r : Int)) ∧ w' = w :=
  (Max_any tree leaf w r hr).mono fun _ _ h => ⟨h.1, h.2.symm⟩

/-- Get of a key in Read -/
theorem rd_key {w : World} {b off c : Nat} {l : List UInt8} (hB : Bytes8 w (some ⟨b, off, none⟩) 244 c l) (mx : Nat) (hmx : mx ≤ 18) (k : Nat) (hk : k < mx) (c' : Nat) (hc : 8 * mx ≤ c') (hc2 : c' ≤ 9223372036854775807) (W : World) (hb : Below w.heap.size w W) :
    Calls Tryz.prog 90 #[.slice (some ⟨b, off + 12, none⟩) (8 * mx : Nat) c', .int .i64 (8 * k : Int), .int .i64 8] W fun e w' => Below W.heap.size W w' ∧ (keyR l k < 9223372036854775808 → e = .returned (.tuple #[.int .i64 (keyR l k : Int), .int .i64 0])) ∧ (9223372036854775808 ≤ keyR l k → e = .returned (.tuple #[.int .i64 0, .int .i64 2])) := by
  have hS := sub_bytes (hB.below hb) 12 (8 * mx) c' (by omega) hc hc2
  have g := get_in (l := (l.drop 12).take (8 * mx)) (wd := 8) (8 * k) (by decide) (by have := hS.len; rw [this]; change 8 * k + 8 ≤ 8 * mx; omega)
  have e : (((l.drop 12).take (8 * mx)).drop (8 * k)).take (8 : Int).toNat = (l.drop (12 + 8 * k)).take 8 := by
    change (((l.drop 12).take (8 * mx)).drop (8 * k)).take 8 = _
    rw [List.drop_take, List.take_take, List.drop_drop, Nat.min_eq_left (by omega)]
  rw [e] at g
  refine (Get_any _ _ c' _ (8 * k : Int) 8 W hS (by omega)).mono ?_
  rintro e w' ⟨rfl, hb⟩
  refine ⟨hb, fun h => ?_, fun h => ?_⟩
  · have := g.1 h
    rw [show ((8 * k : Nat) : Int) = 8 * (k : Int) by omega] at this
    rw [this.1, this.2]; rfl
  · have := g.2 h
    rw [show ((8 * k : Nat) : Int) = 8 * (k : Int) by omega] at this
    rw [this.1, this.2]


/-- Zero of what is left of the keys, and of the values -/
theorem rd_zk {w : World} {b off c : Nat} {l : List UInt8} {tree : Int} {leaf : Bool} (hB : Bytes8 w (some ⟨b, off, none⟩) 244 c l) (mx : Nat) (hm : capR l = mx) (h18 : mx ≤ 18) (hc : cntR l ≤ mx) (r : Bool) (hr : zkB l = r) (W : World) (o m c' : Nat) (hW : RdN w W tree leaf) (ho : o = off + (12 + 8 * cntR l)) (hmm : m = 8 * mx - 8 * cntR l) (hmc : m ≤ c') (hc' : c' ≤ 9223372036854775807) :
    Calls Tryz.prog 92 #[.slice (some ⟨b, o, none⟩) m c'] W fun e w' => e = .returned (.bool r) ∧ W = w' := by
  subst ho; subst hmm
  have hS := sub_bytes (hB.below hW.bel) (12 + 8 * cntR l) (8 * mx - 8 * cntR l) c' (by omega) hmc hc'
  exact Zero_any _ _ _ _ W hS r (by rw [← hr, zkB, hm])

theorem rd_zv {w : World} {b off c : Nat} {l : List UInt8} {tree : Int} {leaf : Bool} (hB : Bytes8 w (some ⟨b, off, none⟩) 244 c l) (wd mx : Nat) (hw : widR l = wd) (hm : capR l = mx) (hfit : 12 + 8 * mx + wd * cntR l ≤ 244) (r : Bool) (hr : zvB l = r) (W : World) (o m c' : Nat) (hW : RdN w W tree leaf) (ho : o = off + (12 + 8 * mx + wd * cntR l)) (hmm : m = 244 - (12 + 8 * mx + wd * cntR l)) (hmc : m ≤ c') (hc' : c' ≤ 9223372036854775807) :
    Calls Tryz.prog 92 #[.slice (some ⟨b, o, none⟩) m c'] W fun e w' => e = .returned (.bool r) ∧ W = w' := by
  subst ho; subst hmm
  have hS := sub_bytes (hB.below hW.bel) (12 + 8 * mx + wd * cntR l) (244 - (12 + 8 * mx + wd * cntR l)) c' (by omega) hmc hc'
  exact Zero_any _ _ _ _ W hS r (by rw [← hr, zvB, hm, hw, List.take_of_length_le (by rw [List.length_drop, hB.len]; exact Nat.le_refl _)])

theorem valR_bytes {w : World} {b off c : Nat} {l : List UInt8} (hB : Bytes8 w (some ⟨b, off, none⟩) 244 c l) (wd mx : Nat) (hw : widR l = wd) (hm : capR l = mx) (k : Nat) (hfit : 12 + 8 * mx + wd * k + wd ≤ 244) (W : World) (o m c' : Nat) (hb : Below w.heap.size w W) (ho : o = off + (12 + 8 * mx + wd * k)) (hmm : m = wd) (hmc : m ≤ c') (hc' : c' ≤ 9223372036854775807) :
    Bytes8 W (some ⟨b, o, none⟩) m c' (valR l k) := by
  subst ho; subst hmm
  have := sub_bytes (hB.below hb) (12 + 8 * mx + m * k) m c' (by omega) hmc hc'
  rwa [valR, hm, hw]

theorem key_all {l : List UInt8} (hf : formN l = true) (h : keyErr (-1) (keysR l) = 0) : readNE l = 0 ∧ readN l = ⟨treeR l, leafR l, intsR l, valsR l⟩ := by
  have h0 : readNE l = 0 := by rw [readNE_form hf, h]
  exact ⟨h0, by rw [readN, if_pos h0, nodR_parts]⟩

theorem intsR_bd {l : List UInt8} (hf : readNE l = 0) : ∀ k ∈ intsR l, i64b k := by
  intro k hk
  have := upFrom_bounds (rightN_iff.1 (readN_right hf)).2.2.2.2.1 k (by rw [nodR_parts]; exact hk)
  simp only [maxK] at this
  simp only [i64b]; omega
theorem valsR_bd {l : List UInt8} (hf : readNE l = 0) : ∀ v ∈ valsR l, v.length ≤ 9223372036854775807 := by
  intro v hv
  have h1 := rightN_iff.1 (readN_right hf)
  have h2 := h1.2.2.2.1 v (by rw [nodR_parts]; exact hv)
  rw [h2]
  rcases widN_cases (nodR l).tree (nodR l).leaf with ⟨a, _⟩ | ⟨a, _⟩ | ⟨a, _⟩ | ⟨a, _⟩ | ⟨a, _⟩ <;> rw [a] <;> omega

/-- the same, and what it hands back is newer than all that stood -/
def RdPostF (w : World) (l : List UInt8) (e : Ending) (w' : World) : Prop := ∃ A n c A2 n2 c2, e = .returned (.tuple #[nodV (readN l) A n c A2 n2 c2, .int .i64 (readNE l)]) ∧ NodIn w' (readN l) A n c A2 n2 c2 ∧ Below w.heap.size w w' ∧ Newer w.heap.size A ∧ Newer w.heap.size A2
/-- the end of Read's loop -/
theorem rdPost_good {w w' : World} {l : List UInt8} {Ak : Option Addr} {ck : Nat} {Av : Option Addr} {cv cnt : Nat} (hf : formN l = true) (h : keyErr (-1) (keysR l) = 0) (hc : cnt = cntR l) (hL : LpN w w' (treeR l) (leafR l) cnt Ak ck cnt Av cv (intsR l) (valsR l)) :
    RdPostF w l (.returned (.tuple #[.agg #[.int .i64 (treeR l), .bool (leafR l), .slice Ak cnt ck, .slice Av cnt cv], .int .i64 0])) ((((w'.setCell ⟨w.heap.size, 0, none⟩ (.int .i64 (treeR l))).setCell ⟨w.heap.size, 1, none⟩ (.bool (leafR l))).setCell ⟨w.heap.size, 2, none⟩ (.slice Ak cnt ck)).setCell ⟨w.heap.size, 3, none⟩ (.slice Av cnt cv)) := by
  obtain ⟨h0, h1⟩ := key_all hf h
  refine ⟨Ak, cnt, ck, Av, cnt, cv, by rw [h0, h1]; rfl, ?_, below_store7 hL.bel (Nat.le_refl _) _ _ _ _, (Newer.of_own hL.ok).mono (by omega), (Newer.of_own hL.ov).mono (by omega)⟩
  rw [h1]
  exact hL.finish (by simp only [i64b, treeR]; have := UInt8.toNat_lt (l.getD 1 0); omega) (intsR_bd h0) (valsR_bd h0) (by rw [hc, intsR_len]) _ _ _ _

theorem rdPost_bad {w w' : World} {l : List UInt8} {x : Int} (h : readNE l = x ∧ readN l = Nod.zero) (hb : Below w.heap.size w w') : RdPostF w l (.returned (.tuple #[zeroNode, .int .i64 x])) w' :=
  ⟨none, 0, 0, none, 0, 0, by rw [h.1, h.2, zeroNode_eq], by rw [h.2]; exact NodIn.zero w', hb, Newer.nil _, Newer.nil _⟩

end Go.Proofs.YtnjlganofjkpfaaGreat

/-
  Layer 7's Read: the zeros, and the loop.
-/
namespace Go.Proofs.YtnjlganofjkpfaaGreat
open Go.RowKit
set_option linter.unusedVariables false
set_option linter.unusedSimpArgs false

theorem info_strvA : (Tryz.prog.info? 9).map (fun i => (i.zero, i.size, i.bytes)) = some (some (.string ByteArray.empty), 1, 16) := by kernel_rfl

set_option maxRecDepth 100000 in
set_option maxHeartbeats 1600000 in
theorem Read_restA (w : World) (A : Option Addr) (n c : Nat) (l : List UInt8) (hB : Bytes8 w A n c l) (h : l.length = 244) (hh : holdsN (treeR l) (leafR l) (cntR l) = true) (hp : l.take 12 = nodHeadB l) (wd mx : Nat) (hwm : wd = 4 ∧ mx = 18) (hw : widN (treeR l) (leafR l) = wd) (hm : capN (widN (treeR l) (leafR l)) = mx) :
    Calls Tryz.prog 77 #[.slice A n c] w fun e w' => RdPostF w l e w' := by
  obtain ⟨b, off, x0, rfl, hI⟩ := rd_in hB h
  obtain ⟨hk0, hk1, hj0, hj1, hm0, hm1⟩ := hI.three
  have G := Lib.hid (rd_get (tree := treeR l) (leaf := leafR l) hB h)
  have BG := Lib.hid (rd_begin (w := w) (tree := treeR l) (leaf := leafR l) (cntR l) hI.tree hI.cnt)
  have PK := Lib.hid (rd_pack (w := w) (tree := treeR l) (leaf := leafR l) (cntR l) hI.tree hI.cnt)
  have HO := Lib.hid (fun W => holds_any (treeR l) (leafR l) (cntR l) W true (by have := hI.cnt; omega) hh)
  have HP := Lib.hid (rd_prefix (tree := treeR l) (leaf := leafR l) hB h _ true (decide_eq_true hp))
  have HCNT := hh
  clear hh
  simp only [nodHeadB] at HP
  have WD := Lib.hid (fun W => Width_q (treeR l) (leafR l) W wd hw)
  have MX := Lib.hid (fun W => Max_q (treeR l) (leafR l) W mx hm)
  have hcm2 : cntR l ≤ mx := by
    have := HCNT; simp only [holdsN, Bool.and_eq_true, decide_eq_true_eq] at this; rw [hm] at this; exact this.1.2
  have hfit : mx ≤ 18 ∧ 12 + 8 * mx + wd * mx ≤ 244 := by obtain ⟨rfl, rfl⟩ := hwm; omega
  have hmul : wd * cntR l ≤ wd * mx := Nat.mul_le_mul_left _ hcm2
  obtain rfl := hI.hn
  have ZK := Lib.hid (fun r hr => rd_zk (tree := treeR l) (leaf := leafR l) hB mx hm hfit.1 hcm2 r hr)
  have ZV := Lib.hid (fun r hr => rd_zv (tree := treeR l) (leaf := leafR l) hB wd mx hw hm (by omega) r hr)
  have ZF : Hid (zkB l = false ∨ zvB l = false → readNE l = 7 ∧ readN l = Nod.zero) := fun hx => readNE_bad (fun hf => by
    have := (form_iff h).1 (formN_iff.1 hf)
    rcases hx with hx | hx
    · rw [hx] at this; exact absurd this.2.1 (by simp)
    · rw [hx] at this; exact absurd this.2.2 (by simp))
  have FM : Hid (zkB l = true → zvB l = true → formN l = true) := fun h1 h2 => formN_iff.2 ((form_iff h).2 ⟨⟨HCNT, hp⟩, h1, h2⟩)
  have KT : Hid (∀ k, k < cntR l → keyErr (-1) ((keysR l).take k) = 0 → keyErr (-1) ((keysR l).take (k + 1)) = followsE (keyR l k) (prevK (-1) (intsR l) k + 1) ∧ -1 ≤ prevK (-1) (intsR l) k ∧ prevK (-1) (intsR l) k ≤ maxK ∧ prevK (-1) (intsR l) (k + 1) = (keyR l k : Int)) := fun k => key_test
  have IA : Hid (∀ k, k < cntR l → (intsR l).take (k + 1) = (intsR l).take k ++ [(keyR l k : Int)]) := fun k => intsR_at
  have VA : Hid (∀ k, k < cntR l → (valsR l).take (k + 1) = (valsR l).take k ++ [valR l k]) := fun k => valsR_at
  have LN : Hid ((keysR l).length = cntR l ∧ (intsR l).length = cntR l ∧ (valsR l).length = cntR l) := ⟨keysR_len l, intsR_len l, valsR_len l⟩
  have KG : Hid (∀ k, k < mx → ∀ m c', m = 8 * mx → m ≤ c' → c' ≤ 9223372036854775807 → ∀ W, Below w.heap.size w W → Calls Tryz.prog 90 #[.slice (some ⟨b, off + 12, none⟩) m c', .int .i64 (8 * k : Int), .int .i64 8] W fun e w' => Below W.heap.size W w' ∧ (keyR l k < 9223372036854775808 → e = .returned (.tuple #[.int .i64 (keyR l k : Int), .int .i64 0])) ∧ (9223372036854775808 ≤ keyR l k → e = .returned (.tuple #[.int .i64 0, .int .i64 2]))) := fun k hk m c' e h1 h2 W hW => by
    subst e; exact rd_key hB mx hfit.1 k hk c' h1 h2 W hW
  have VB : Hid (∀ k, k < cntR l → ∀ W o m c', Below w.heap.size w W → o = off + (12 + 8 * mx + wd * k) → m = wd → m ≤ c' → c' ≤ 9223372036854775807 → Bytes8 W (some ⟨b, o, none⟩) m c' (valR l k)) := fun k hk W o m c' hb ho hm1 h1 h2 => valR_bytes hB wd mx hw hm k (by have : wd * (k + 1) ≤ wd * cntR l := Nat.mul_le_mul_left _ hk; rw [Nat.mul_add, Nat.mul_one] at this; omega) W o m c' hb ho hm1 h1 h2
  have GD : Hid (∀ w' Ak ck Av cv cnt, formN l = true → keyErr (-1) (keysR l) = 0 → cnt = cntR l → LpN w w' (treeR l) (leafR l) cnt Ak ck cnt Av cv (intsR l) (valsR l) → RdPostF w l (.returned (.tuple #[.agg #[.int .i64 (treeR l), .bool (leafR l), .slice Ak cnt ck, .slice Av cnt cv], .int .i64 0])) ((((w'.setCell ⟨w.heap.size, 0, none⟩ (.int .i64 (treeR l))).setCell ⟨w.heap.size, 1, none⟩ (.bool (leafR l))).setCell ⟨w.heap.size, 2, none⟩ (.slice Ak cnt ck)).setCell ⟨w.heap.size, 3, none⟩ (.slice Av cnt cv))) := fun w' Ak ck Av cv cnt => rdPost_good
  have ST := Lib.hid (RdN.start w (treeR l) (leafR l))
  have hlf := hI.leaf
  obtain ⟨ht0, ht1⟩ := hI.tree
  have hcn := hI.cnt
  have hcc := hI.cap
  have hcm := hI.most
  clear hB h hI hmul hfit
  generalize treeR l = tree at *
  generalize leafR l = leaf at *
  generalize cntR l = cnt at *
  subst hlf
  simp only [zN] at *
  go_enter Tryz.func77, Tryz.ntmps77
  go_wp2
  go_region
  generalize ((x0 : Int) == 1) = leaf at *
  generalize ((w.alloc (.cells #[.int .i64 0, .bool false, .slice none 0 0, .slice none 0 0] 70)).alloc (.cells #[.int .i64 tree, .bool leaf, .slice none 0 0, .slice none 0 0] 70)).drew = W1 at *
  clear hk0 hk1 hj0 hj1 hm0 hm1 hw hm
  obtain ⟨rfl, rfl⟩ := hwm
  go_wp2_with (first
    | (go_at_call 90; (with_reducible refine (G.out _ ST.out).mono ?_); rintro e w1 ⟨rfl, hS1⟩; have q0 := hS1.node.c0; have q1 := hS1.node.c1)
    | (go_at_call 51; (with_reducible refine (BG.out _ hS1).mono ?_); rintro e w2 ⟨A2, c2, rfl, hF2, hS2⟩)
    | (go_at_call 52; (with_reducible refine (PK.out _ _ _ hS2 hF2).mono ?_); rintro e w3 ⟨A3, c3, rfl, hB3, hS3⟩; have HB3 := Lib.hid hB3; clear hB3; have p0 := hS3.node.c0; have p1 := hS3.node.c1; have z0 := hS3.zero.c0; have z1 := hS3.zero.c1; have z2 := hS3.zero.c2; have z3 := hS3.zero.c3; have y0 := Lib.frozen_of_heap hS3.zero 0; have y1 := Lib.frozen_of_heap hS3.zero 1; have y2 := Lib.frozen_of_heap hS3.zero 2; have y3 := Lib.frozen_of_heap hS3.zero 3)
    | (go_at_call 64; (with_reducible refine (HO.out _).mono ?_); rintro e w' ⟨rfl, rfl⟩)
    | (go_at_call 91; (with_reducible refine (HP.out _ _ _ hS3 HB3.out).mono ?_); rintro e w' ⟨rfl, rfl⟩))
  go_quiet (first
    | (go_at_call 28; refine Calls.quiet_of_same (WD.out _))
    | (go_at_call 22; refine Calls.quiet_of_same (MX.out _)))
  go_wp2
  go_region
  have hS4 : RdN w (w3.drewN nq).drew tree leaf := hS3.later (below_drewN (Below.refl _ _) _).drew
  have z0 := hS4.zero.c0; have z1 := hS4.zero.c1; have z2 := hS4.zero.c2; have z3 := hS4.zero.c3; have y0 := Lib.frozen_of_heap hS4.zero 0; have y1 := Lib.frozen_of_heap hS4.zero 1; have y2 := Lib.frozen_of_heap hS4.zero 2; have y3 := Lib.frozen_of_heap hS4.zero 3
  generalize (w3.drewN nq).drew = w4 at *
  clear hS1 hS2 hS3 ST HB3 G BG PK HO HP WD MX
  cases hzk : zkB l with
  | false =>
    have Z1 := Lib.hid (ZK.out false hzk)
    go_wp2_with (go_at_call 92; (with_reducible refine (Z1.out _ _ _ _ hS4 (by omega) (by omega) (by omega) (by omega)).mono ?_); rintro e w' ⟨rfl, rfl⟩)
    refine bodyPost_ret (results_nod Tryz.results77 _ _ w.heap.size 0 false (.slice none 0 0) (.slice none 0 0) rfl rfl rfl (hS4.zero.store _ _ _ _)) rfl ?_
    exact rdPost_bad (ZF.out (.inl hzk)) (below_store7 hS4.bel (Nat.le_refl _) _ _ _ _)
  | true =>
    have Z1 := Lib.hid (ZK.out true hzk)
    cases hzv : zvB l with
    | false =>
      have Z2 := Lib.hid (ZV.out false hzv)
      go_wp2_with (first
        | (go_at_call 92; (with_reducible refine (Z1.out _ _ _ _ hS4 (by omega) (by omega) (by omega) (by omega)).mono ?_); rintro e w' ⟨rfl, rfl⟩)
        | (go_at_call 92; (with_reducible refine (Z2.out _ _ _ _ hS4 (by omega) (by omega) (by omega) (by omega)).mono ?_); rintro e w' ⟨rfl, rfl⟩))
      refine bodyPost_ret (results_nod Tryz.results77 _ _ w.heap.size 0 false (.slice none 0 0) (.slice none 0 0) rfl rfl rfl (hS4.zero.store _ _ _ _)) rfl ?_
      exact rdPost_bad (ZF.out (.inr hzv)) (below_store7 hS4.bel (Nat.le_refl _) _ _ _ _)
    | true =>
      have Z2 := Lib.hid (ZV.out true hzv)
      go_wp2_with (first
        | (go_at_call 92; (with_reducible refine (Z1.out _ _ _ _ hS4 (by omega) (by omega) (by omega) (by omega)).mono ?_); rintro e w' ⟨rfl, rfl⟩)
        | (go_at_call 92; (with_reducible refine (Z2.out _ _ _ _ hS4 (by omega) (by omega) (by omega) (by omega)).mono ?_); rintro e w' ⟨rfl, rfl⟩))
      have hf := FM.out hzk hzv
      have HL0 := Lib.hid hS4.loop
      clear Z1 Z2 ZK ZV ZF FM z0 z1 z2 z3 y0 y1 y2 y3 hS4 hzk hzv hp
      go_loopw [13, 100] (fun a i wr => ∃ k : Nat, k ≤ cnt ∧ i = .int .i64 k ∧ (∃ x : Int, a = .int .i64 x ∧ 0 ≤ x ∧ x ≤ 281474976710656 ∧ Hid (x = prevK (-1) (intsR l) k + 1)) ∧ Hid (keyErr (-1) ((keysR l).take k) = 0) ∧ Hid (∃ Ak ck Av cv, LpN w wr tree leaf k Ak ck k Av cv ((intsR l).take k) ((valsR l).take k))) (fun _ i _ => cnt - (intOf i).toNat)
      case atStart => exact ⟨0, by omega, rfl, ⟨0, rfl, by omega, by omega, rfl⟩, rfl, none, 0, none, 0, HL0.out⟩
      case round =>
        clear HL0
        obtain ⟨k, hk, rfl, ⟨x, rfl, hx0, hx1, hX⟩, hE, Ak, ck, Av, cv, hS⟩ := hrel
        by_cases hlt : k < cnt
        · have hkt := KT.out k hlt hE.out
          obtain ⟨t1, t2, t3, t4⟩ := hkt
          rw [← hX.out] at t1
          have hIA := Lib.hid (IA.out k hlt)
          have hVA := Lib.hid (VA.out k hlt)
          have K1 := Lib.hid (KG.out k (by omega))
          have KEnd : Hid (∀ e, keyErr (-1) ((keysR l).take (k + 1)) = e → e ≠ 0 → readNE l = e ∧ readN l = Nod.zero) := fun e => key_end hf
          have V1 := Lib.hid (VB.out k hlt)
          have hT1 := Lib.hid t1
          have hT4 := Lib.hid t4
          clear t1 t2 t3 t4
          by_cases hbig : 9223372036854775808 ≤ keyR l k
          · have hend : readNE l = 2 ∧ readN l = Nod.zero := KEnd.out 2 (by rw [hT1.out]; unfold followsE; rw [if_pos (.inr (by omega))]) (by omega)
            have HEnd := Lib.hid hend
            have HBig := Lib.hid hbig
            have HS := Lib.hid hS
            clear hend hbig hS
            go_wp2_with (go_at_call 90; (with_reducible refine (K1.out _ _ (by omega) (by omega) (by omega) _ HS.out.bel).mono ?_); rintro e w5 ⟨hb5, _, hhi⟩; obtain rfl := hhi HBig.out; have hS5 := HS.out.later hb5; have z0 := hS5.zero.c0; have z1 := hS5.zero.c1; have z2 := hS5.zero.c2; have z3 := hS5.zero.c3; have y0 := Lib.frozen_of_heap hS5.zero 0; have y1 := Lib.frozen_of_heap hS5.zero 1; have y2 := Lib.frozen_of_heap hS5.zero 2; have y3 := Lib.frozen_of_heap hS5.zero 3)
            refine bodyPost_ret (results_nod Tryz.results77 _ _ w.heap.size 0 false (.slice none 0 0) (.slice none 0 0) rfl rfl rfl (hS5.zero.store _ _ _ _)) rfl ?_
            exact rdPost_bad HEnd.out (below_store7 hS5.bel (Nat.le_refl _) _ _ _ _)
          · have hsm : keyR l k < 9223372036854775808 := by omega
            have HS := Lib.hid hS
            have HSm := Lib.hid hsm
            clear hbig hS hsm
            obtain ⟨fx, hfx⟩ : ∃ fx, followsE (keyR l k) x = fx := ⟨_, rfl⟩
            have FO := Lib.hid (fun W => follows_any (keyR l k) x W fx hfx)
            rw [hfx] at hT1
            by_cases h0 : fx = 0
            · subst h0
              have hmax : (keyR l k : Int) ≤ 281474976710655 := by
                rw [hX.out] at hfx
                exact ((followsE_ok (by have := hX.out; omega)).1 hfx).2
              have HX1 : Hid ((keyR l k : Int) + 1 = prevK (-1) (intsR l) (k + 1) + 1) := by rw [hT4.out]; rfl
              clear hfx KEnd
              generalize keyR l k = key at *
              go_wp2_with (first
                | (go_at_call 90; (with_reducible refine (K1.out _ _ (by omega) (by omega) (by omega) _ HS.out.bel).mono ?_); rintro e w5 ⟨hb5, hlo, _⟩; obtain rfl := hlo HSm.out; have hS5 := HS.out.later hb5)
                | (go_at_call 65; (with_reducible refine (FO.out _).mono ?_); rintro e w' ⟨rfl, rfl⟩; have n2 := hS5.node.c2)
                | (at_builtin; go_must (refine wpList_append_newG w5 rfl (.tmp 120) (.tmp 122) _ rfl (w.heap.size + 2) 3 _ _ 8 Tryz.underlying33 info_i64 rfl (.slice Ak k ck) _ _ rfl hS5.ok hS5.low [_] 1 1 rfl rfl (by simp [Value.oneCell']) (by omega) (by omega) ?_); intro v6 w6 ho6 hg6; obtain ⟨Ak', ck', rfl, hn6, hS6⟩ := hS5.addKey ho6.out hg6.out; have m2 := hn6.c2; have g2 := Lib.frozen_of_heap hn6 2))
              have n3 := hS6.node.c3
              have HS6 := Lib.hid hS6
              generalize w6.setCell ⟨w.heap.size + 1, 2, none⟩ (.slice Ak' (k + 1) ck') = w7 at *
              clear hS6 hn6 m2 g2 ho6 hg6 n2 hS5
              have hkc : k < 18 := by omega
              obtain ⟨p, hp⟩ : ∃ p, p = 4 * k := ⟨_, rfl⟩
              obtain ⟨q, hq⟩ : ∃ q, q = 4 * k + 4 := ⟨_, rfl⟩
              have e1 : IntKind.i64.wrap ((4 : Int) * (k : Int)) = (p : Int) := by rw [IntKind.wrap_i64]; omega
              have e2 : IntKind.i64.wrap ((4 : Int) * IntKind.i64.wrap ((k : Int) + 1)) = (q : Int) := by
                have : IntKind.i64.wrap ((k : Int) + 1) = (k : Int) + 1 := by rw [IntKind.wrap_i64]; omega
                rw [this, IntKind.wrap_i64]; omega
              have e3 : (q : Int) ≤ ((c - 156 : Nat) : Int) := by omega
              have e4 : p ≤ q := by omega
              have e5 : ¬ c - 156 = p := by omega
              have e6 : q - p = 4 := by omega
              have hVb := V1.out w7.drew (off + 156 + p) 4 (c - 156 - p) HS6.out.bel.drew (by omega) rfl (by omega) (by omega)
              have cvs := run_str hVb
              have HSd := Lib.hid (HS6.out.later ((Below.refl _ _).alloc (Nat.le_refl _) (.cells #[.string ⟨(valR l k).toArray⟩] 9)).drew)
              have n3A := (HS6.out.later ((Below.refl _ _).alloc (Nat.le_refl _) (.cells #[.string ⟨(valR l k).toArray⟩] 9) : Below w7.heap.size w7 _)).node.c3
              clear hVb hp hq
              go_region_law (first
                | (refine step_append_rowG _ rfl (.tmp 126) (.tmp 137) 68 rfl (w.heap.size + 2) 9 1 _ 16 Tryz.underlying68 info_strvA rfl (by omega) (.slice Av k cv) k _ rfl HSd.out.ov HSd.out.low ⟨w7.heap.size, 0, none⟩ [.string ⟨(valR l k).toArray⟩] 1 1 rfl rfl (Row.of_block (t := 9) (fr := (0, 0)) (heap_alloc_new w7 _)) (by simp [Value.oneCell']) (by omega) (by omega) ?_
                   intro v8 w8 ho8 hg8
                   obtain ⟨Av', cv', rfl, hn8, hS8⟩ := HSd.out.addVal ho8.out hg8.out
                   have m3 := hn8.c3
                   have g3 := Lib.frozen_of_heap hn8 3))
              all_goals go_wp2
              all_goals go_roundw
              all_goals first
                | exact ⟨k + 1, by omega, by go_num, ⟨(key : Int) + 1, by go_num, by omega, by omega, HX1⟩, hT1, Ak', ck', Av', cv', by rw [hIA.out, hVA.out]; exact hS8⟩
                | (simp [intOf]; omega)
            · have hend := KEnd.out fx hT1.out h0
              have HEnd := Lib.hid hend
              have hne : (fx == 0) = false := by rw [beq_eq_false_iff_ne]; exact h0
              have hne2 : (fx != 0) = true := by rw [bne_iff_ne]; exact h0
              clear hend hfx
              go_wp2_with (first
                | (go_at_call 90; (with_reducible refine (K1.out _ _ (by omega) (by omega) (by omega) _ HS.out.bel).mono ?_); rintro e w5 ⟨hb5, hlo, _⟩; obtain rfl := hlo HSm.out; have hS5 := HS.out.later hb5; have z0 := hS5.zero.c0; have z1 := hS5.zero.c1; have z2 := hS5.zero.c2; have z3 := hS5.zero.c3; have y0 := Lib.frozen_of_heap hS5.zero 0; have y1 := Lib.frozen_of_heap hS5.zero 1; have y2 := Lib.frozen_of_heap hS5.zero 2; have y3 := Lib.frozen_of_heap hS5.zero 3)
                | (go_at_call 65; (with_reducible refine (FO.out _).mono ?_); rintro e w' ⟨rfl, rfl⟩))
              refine bodyPost_ret (results_nod Tryz.results77 _ _ w.heap.size 0 false (.slice none 0 0) (.slice none 0 0) rfl rfl rfl (hS5.zero.store _ _ _ _)) rfl ?_
              exact rdPost_bad HEnd.out (below_store7 hS5.bel (Nat.le_refl _) _ _ _ _)
        · obtain rfl : k = cnt := by omega
          have hEall : keyErr (-1) (keysR l) = 0 := by
            have := hE.out
            rwa [List.take_of_length_le (by have := LN.out.1; omega)] at this
          rw [List.take_of_length_le (by have := LN.out.2.1; omega), List.take_of_length_le (by have := LN.out.2.2; omega)] at hS
          have HG1 := Lib.hid (GD.out wr Ak ck Av cv k hf hEall rfl hS)
          have hz := hS.zero
          have z0 := hS.zero.c0; have z1 := hS.zero.c1; have z2 := hS.zero.c2; have z3 := hS.zero.c3; have y0 := Lib.frozen_of_heap hS.zero 0; have y1 := Lib.frozen_of_heap hS.zero 1; have y2 := Lib.frozen_of_heap hS.zero 2; have y3 := Lib.frozen_of_heap hS.zero 3
          have x0 := hS.node.c0; have x1 := hS.node.c1; have x2 := hS.node.c2; have x3 := hS.node.c3
          go_wp2
          refine bodyPost_ret (results_nod Tryz.results77 _ _ w.heap.size tree leaf (.slice Ak k ck) (.slice Av k cv) rfl rfl rfl (hz.store _ _ _ _)) rfl ?_
          exact HG1.out

end Go.Proofs.YtnjlganofjkpfaaGreat

/-
  Layer 7's Read: the zeros, and the loop.
-/
namespace Go.Proofs.YtnjlganofjkpfaaGreat
open Go.RowKit
set_option linter.unusedVariables false
set_option linter.unusedSimpArgs false

theorem info_strvB : (Tryz.prog.info? 9).map (fun i => (i.zero, i.size, i.bytes)) = some (some (.string ByteArray.empty), 1, 16) := by kernel_rfl

set_option maxRecDepth 100000 in
set_option maxHeartbeats 1600000 in
theorem Read_restB (w : World) (A : Option Addr) (n c : Nat) (l : List UInt8) (hB : Bytes8 w A n c l) (h : l.length = 244) (hh : holdsN (treeR l) (leafR l) (cntR l) = true) (hp : l.take 12 = nodHeadB l) (wd mx : Nat) (hwm : wd = 8 ∧ mx = 12) (hw : widN (treeR l) (leafR l) = wd) (hm : capN (widN (treeR l) (leafR l)) = mx) :
    Calls Tryz.prog 77 #[.slice A n c] w fun e w' => RdPostF w l e w' := by
  obtain ⟨b, off, x0, rfl, hI⟩ := rd_in hB h
  obtain ⟨hk0, hk1, hj0, hj1, hm0, hm1⟩ := hI.three
  have G := Lib.hid (rd_get (tree := treeR l) (leaf := leafR l) hB h)
  have BG := Lib.hid (rd_begin (w := w) (tree := treeR l) (leaf := leafR l) (cntR l) hI.tree hI.cnt)
  have PK := Lib.hid (rd_pack (w := w) (tree := treeR l) (leaf := leafR l) (cntR l) hI.tree hI.cnt)
  have HO := Lib.hid (fun W => holds_any (treeR l) (leafR l) (cntR l) W true (by have := hI.cnt; omega) hh)
  have HP := Lib.hid (rd_prefix (tree := treeR l) (leaf := leafR l) hB h _ true (decide_eq_true hp))
  have HCNT := hh
  clear hh
  simp only [nodHeadB] at HP
  have WD := Lib.hid (fun W => Width_q (treeR l) (leafR l) W wd hw)
  have MX := Lib.hid (fun W => Max_q (treeR l) (leafR l) W mx hm)
  have hcm2 : cntR l ≤ mx := by
    have := HCNT; simp only [holdsN, Bool.and_eq_true, decide_eq_true_eq] at this; rw [hm] at this; exact this.1.2
  have hfit : mx ≤ 18 ∧ 12 + 8 * mx + wd * mx ≤ 244 := by obtain ⟨rfl, rfl⟩ := hwm; omega
  have hmul : wd * cntR l ≤ wd * mx := Nat.mul_le_mul_left _ hcm2
  obtain rfl := hI.hn
  have ZK := Lib.hid (fun r hr => rd_zk (tree := treeR l) (leaf := leafR l) hB mx hm hfit.1 hcm2 r hr)
  have ZV := Lib.hid (fun r hr => rd_zv (tree := treeR l) (leaf := leafR l) hB wd mx hw hm (by omega) r hr)
  have ZF : Hid (zkB l = false ∨ zvB l = false → readNE l = 7 ∧ readN l = Nod.zero) := fun hx => readNE_bad (fun hf => by
    have := (form_iff h).1 (formN_iff.1 hf)
    rcases hx with hx | hx
    · rw [hx] at this; exact absurd this.2.1 (by simp)
    · rw [hx] at this; exact absurd this.2.2 (by simp))
  have FM : Hid (zkB l = true → zvB l = true → formN l = true) := fun h1 h2 => formN_iff.2 ((form_iff h).2 ⟨⟨HCNT, hp⟩, h1, h2⟩)
  have KT : Hid (∀ k, k < cntR l → keyErr (-1) ((keysR l).take k) = 0 → keyErr (-1) ((keysR l).take (k + 1)) = followsE (keyR l k) (prevK (-1) (intsR l) k + 1) ∧ -1 ≤ prevK (-1) (intsR l) k ∧ prevK (-1) (intsR l) k ≤ maxK ∧ prevK (-1) (intsR l) (k + 1) = (keyR l k : Int)) := fun k => key_test
  have IA : Hid (∀ k, k < cntR l → (intsR l).take (k + 1) = (intsR l).take k ++ [(keyR l k : Int)]) := fun k => intsR_at
  have VA : Hid (∀ k, k < cntR l → (valsR l).take (k + 1) = (valsR l).take k ++ [valR l k]) := fun k => valsR_at
  have LN : Hid ((keysR l).length = cntR l ∧ (intsR l).length = cntR l ∧ (valsR l).length = cntR l) := ⟨keysR_len l, intsR_len l, valsR_len l⟩
  have KG : Hid (∀ k, k < mx → ∀ m c', m = 8 * mx → m ≤ c' → c' ≤ 9223372036854775807 → ∀ W, Below w.heap.size w W → Calls Tryz.prog 90 #[.slice (some ⟨b, off + 12, none⟩) m c', .int .i64 (8 * k : Int), .int .i64 8] W fun e w' => Below W.heap.size W w' ∧ (keyR l k < 9223372036854775808 → e = .returned (.tuple #[.int .i64 (keyR l k : Int), .int .i64 0])) ∧ (9223372036854775808 ≤ keyR l k → e = .returned (.tuple #[.int .i64 0, .int .i64 2]))) := fun k hk m c' e h1 h2 W hW => by
    subst e; exact rd_key hB mx hfit.1 k hk c' h1 h2 W hW
  have VB : Hid (∀ k, k < cntR l → ∀ W o m c', Below w.heap.size w W → o = off + (12 + 8 * mx + wd * k) → m = wd → m ≤ c' → c' ≤ 9223372036854775807 → Bytes8 W (some ⟨b, o, none⟩) m c' (valR l k)) := fun k hk W o m c' hb ho hm1 h1 h2 => valR_bytes hB wd mx hw hm k (by have : wd * (k + 1) ≤ wd * cntR l := Nat.mul_le_mul_left _ hk; rw [Nat.mul_add, Nat.mul_one] at this; omega) W o m c' hb ho hm1 h1 h2
  have GD : Hid (∀ w' Ak ck Av cv cnt, formN l = true → keyErr (-1) (keysR l) = 0 → cnt = cntR l → LpN w w' (treeR l) (leafR l) cnt Ak ck cnt Av cv (intsR l) (valsR l) → RdPostF w l (.returned (.tuple #[.agg #[.int .i64 (treeR l), .bool (leafR l), .slice Ak cnt ck, .slice Av cnt cv], .int .i64 0])) ((((w'.setCell ⟨w.heap.size, 0, none⟩ (.int .i64 (treeR l))).setCell ⟨w.heap.size, 1, none⟩ (.bool (leafR l))).setCell ⟨w.heap.size, 2, none⟩ (.slice Ak cnt ck)).setCell ⟨w.heap.size, 3, none⟩ (.slice Av cnt cv))) := fun w' Ak ck Av cv cnt => rdPost_good
  have ST := Lib.hid (RdN.start w (treeR l) (leafR l))
  have hlf := hI.leaf
  obtain ⟨ht0, ht1⟩ := hI.tree
  have hcn := hI.cnt
  have hcc := hI.cap
  have hcm := hI.most
  clear hB h hI hmul hfit
  generalize treeR l = tree at *
  generalize leafR l = leaf at *
  generalize cntR l = cnt at *
  subst hlf
  simp only [zN] at *
  go_enter Tryz.func77, Tryz.ntmps77
  go_wp2
  go_region
  generalize ((x0 : Int) == 1) = leaf at *
  generalize ((w.alloc (.cells #[.int .i64 0, .bool false, .slice none 0 0, .slice none 0 0] 70)).alloc (.cells #[.int .i64 tree, .bool leaf, .slice none 0 0, .slice none 0 0] 70)).drew = W1 at *
  clear hk0 hk1 hj0 hj1 hm0 hm1 hw hm
  obtain ⟨rfl, rfl⟩ := hwm
  go_wp2_with (first
    | (go_at_call 90; (with_reducible refine (G.out _ ST.out).mono ?_); rintro e w1 ⟨rfl, hS1⟩; have q0 := hS1.node.c0; have q1 := hS1.node.c1)
    | (go_at_call 51; (with_reducible refine (BG.out _ hS1).mono ?_); rintro e w2 ⟨A2, c2, rfl, hF2, hS2⟩)
    | (go_at_call 52; (with_reducible refine (PK.out _ _ _ hS2 hF2).mono ?_); rintro e w3 ⟨A3, c3, rfl, hB3, hS3⟩; have HB3 := Lib.hid hB3; clear hB3; have p0 := hS3.node.c0; have p1 := hS3.node.c1; have z0 := hS3.zero.c0; have z1 := hS3.zero.c1; have z2 := hS3.zero.c2; have z3 := hS3.zero.c3; have y0 := Lib.frozen_of_heap hS3.zero 0; have y1 := Lib.frozen_of_heap hS3.zero 1; have y2 := Lib.frozen_of_heap hS3.zero 2; have y3 := Lib.frozen_of_heap hS3.zero 3)
    | (go_at_call 64; (with_reducible refine (HO.out _).mono ?_); rintro e w' ⟨rfl, rfl⟩)
    | (go_at_call 91; (with_reducible refine (HP.out _ _ _ hS3 HB3.out).mono ?_); rintro e w' ⟨rfl, rfl⟩))
  go_quiet (first
    | (go_at_call 28; refine Calls.quiet_of_same (WD.out _))
    | (go_at_call 22; refine Calls.quiet_of_same (MX.out _)))
  go_wp2
  go_region
  have hS4 : RdN w (w3.drewN nq).drew tree leaf := hS3.later (below_drewN (Below.refl _ _) _).drew
  have z0 := hS4.zero.c0; have z1 := hS4.zero.c1; have z2 := hS4.zero.c2; have z3 := hS4.zero.c3; have y0 := Lib.frozen_of_heap hS4.zero 0; have y1 := Lib.frozen_of_heap hS4.zero 1; have y2 := Lib.frozen_of_heap hS4.zero 2; have y3 := Lib.frozen_of_heap hS4.zero 3
  generalize (w3.drewN nq).drew = w4 at *
  clear hS1 hS2 hS3 ST HB3 G BG PK HO HP WD MX
  cases hzk : zkB l with
  | false =>
    have Z1 := Lib.hid (ZK.out false hzk)
    go_wp2_with (go_at_call 92; (with_reducible refine (Z1.out _ _ _ _ hS4 (by omega) (by omega) (by omega) (by omega)).mono ?_); rintro e w' ⟨rfl, rfl⟩)
    refine bodyPost_ret (results_nod Tryz.results77 _ _ w.heap.size 0 false (.slice none 0 0) (.slice none 0 0) rfl rfl rfl (hS4.zero.store _ _ _ _)) rfl ?_
    exact rdPost_bad (ZF.out (.inl hzk)) (below_store7 hS4.bel (Nat.le_refl _) _ _ _ _)
  | true =>
    have Z1 := Lib.hid (ZK.out true hzk)
    cases hzv : zvB l with
    | false =>
      have Z2 := Lib.hid (ZV.out false hzv)
      go_wp2_with (first
        | (go_at_call 92; (with_reducible refine (Z1.out _ _ _ _ hS4 (by omega) (by omega) (by omega) (by omega)).mono ?_); rintro e w' ⟨rfl, rfl⟩)
        | (go_at_call 92; (with_reducible refine (Z2.out _ _ _ _ hS4 (by omega) (by omega) (by omega) (by omega)).mono ?_); rintro e w' ⟨rfl, rfl⟩))
      refine bodyPost_ret (results_nod Tryz.results77 _ _ w.heap.size 0 false (.slice none 0 0) (.slice none 0 0) rfl rfl rfl (hS4.zero.store _ _ _ _)) rfl ?_
      exact rdPost_bad (ZF.out (.inr hzv)) (below_store7 hS4.bel (Nat.le_refl _) _ _ _ _)
    | true =>
      have Z2 := Lib.hid (ZV.out true hzv)
      go_wp2_with (first
        | (go_at_call 92; (with_reducible refine (Z1.out _ _ _ _ hS4 (by omega) (by omega) (by omega) (by omega)).mono ?_); rintro e w' ⟨rfl, rfl⟩)
        | (go_at_call 92; (with_reducible refine (Z2.out _ _ _ _ hS4 (by omega) (by omega) (by omega) (by omega)).mono ?_); rintro e w' ⟨rfl, rfl⟩))
      have hf := FM.out hzk hzv
      have HL0 := Lib.hid hS4.loop
      clear Z1 Z2 ZK ZV ZF FM z0 z1 z2 z3 y0 y1 y2 y3 hS4 hzk hzv hp
      go_loopw [13, 100] (fun a i wr => ∃ k : Nat, k ≤ cnt ∧ i = .int .i64 k ∧ (∃ x : Int, a = .int .i64 x ∧ 0 ≤ x ∧ x ≤ 281474976710656 ∧ Hid (x = prevK (-1) (intsR l) k + 1)) ∧ Hid (keyErr (-1) ((keysR l).take k) = 0) ∧ Hid (∃ Ak ck Av cv, LpN w wr tree leaf k Ak ck k Av cv ((intsR l).take k) ((valsR l).take k))) (fun _ i _ => cnt - (intOf i).toNat)
      case atStart => exact ⟨0, by omega, rfl, ⟨0, rfl, by omega, by omega, rfl⟩, rfl, none, 0, none, 0, HL0.out⟩
      case round =>
        clear HL0
        obtain ⟨k, hk, rfl, ⟨x, rfl, hx0, hx1, hX⟩, hE, Ak, ck, Av, cv, hS⟩ := hrel
        by_cases hlt : k < cnt
        · have hkt := KT.out k hlt hE.out
          obtain ⟨t1, t2, t3, t4⟩ := hkt
          rw [← hX.out] at t1
          have hIA := Lib.hid (IA.out k hlt)
          have hVA := Lib.hid (VA.out k hlt)
          have K1 := Lib.hid (KG.out k (by omega))
          have KEnd : Hid (∀ e, keyErr (-1) ((keysR l).take (k + 1)) = e → e ≠ 0 → readNE l = e ∧ readN l = Nod.zero) := fun e => key_end hf
          have V1 := Lib.hid (VB.out k hlt)
          have hT1 := Lib.hid t1
          have hT4 := Lib.hid t4
          clear t1 t2 t3 t4
          by_cases hbig : 9223372036854775808 ≤ keyR l k
          · have hend : readNE l = 2 ∧ readN l = Nod.zero := KEnd.out 2 (by rw [hT1.out]; unfold followsE; rw [if_pos (.inr (by omega))]) (by omega)
            have HEnd := Lib.hid hend
            have HBig := Lib.hid hbig
            have HS := Lib.hid hS
            clear hend hbig hS
            go_wp2_with (go_at_call 90; (with_reducible refine (K1.out _ _ (by omega) (by omega) (by omega) _ HS.out.bel).mono ?_); rintro e w5 ⟨hb5, _, hhi⟩; obtain rfl := hhi HBig.out; have hS5 := HS.out.later hb5; have z0 := hS5.zero.c0; have z1 := hS5.zero.c1; have z2 := hS5.zero.c2; have z3 := hS5.zero.c3; have y0 := Lib.frozen_of_heap hS5.zero 0; have y1 := Lib.frozen_of_heap hS5.zero 1; have y2 := Lib.frozen_of_heap hS5.zero 2; have y3 := Lib.frozen_of_heap hS5.zero 3)
            refine bodyPost_ret (results_nod Tryz.results77 _ _ w.heap.size 0 false (.slice none 0 0) (.slice none 0 0) rfl rfl rfl (hS5.zero.store _ _ _ _)) rfl ?_
            exact rdPost_bad HEnd.out (below_store7 hS5.bel (Nat.le_refl _) _ _ _ _)
          · have hsm : keyR l k < 9223372036854775808 := by omega
            have HS := Lib.hid hS
            have HSm := Lib.hid hsm
            clear hbig hS hsm
            obtain ⟨fx, hfx⟩ : ∃ fx, followsE (keyR l k) x = fx := ⟨_, rfl⟩
            have FO := Lib.hid (fun W => follows_any (keyR l k) x W fx hfx)
            rw [hfx] at hT1
            by_cases h0 : fx = 0
            · subst h0
              have hmax : (keyR l k : Int) ≤ 281474976710655 := by
                rw [hX.out] at hfx
                exact ((followsE_ok (by have := hX.out; omega)).1 hfx).2
              have HX1 : Hid ((keyR l k : Int) + 1 = prevK (-1) (intsR l) (k + 1) + 1) := by rw [hT4.out]; rfl
              clear hfx KEnd
              generalize keyR l k = key at *
              go_wp2_with (first
                | (go_at_call 90; (with_reducible refine (K1.out _ _ (by omega) (by omega) (by omega) _ HS.out.bel).mono ?_); rintro e w5 ⟨hb5, hlo, _⟩; obtain rfl := hlo HSm.out; have hS5 := HS.out.later hb5)
                | (go_at_call 65; (with_reducible refine (FO.out _).mono ?_); rintro e w' ⟨rfl, rfl⟩; have n2 := hS5.node.c2)
                | (at_builtin; go_must (refine wpList_append_newG w5 rfl (.tmp 120) (.tmp 122) _ rfl (w.heap.size + 2) 3 _ _ 8 Tryz.underlying33 info_i64 rfl (.slice Ak k ck) _ _ rfl hS5.ok hS5.low [_] 1 1 rfl rfl (by simp [Value.oneCell']) (by omega) (by omega) ?_); intro v6 w6 ho6 hg6; obtain ⟨Ak', ck', rfl, hn6, hS6⟩ := hS5.addKey ho6.out hg6.out; have m2 := hn6.c2; have g2 := Lib.frozen_of_heap hn6 2))
              have n3 := hS6.node.c3
              have HS6 := Lib.hid hS6
              generalize w6.setCell ⟨w.heap.size + 1, 2, none⟩ (.slice Ak' (k + 1) ck') = w7 at *
              clear hS6 hn6 m2 g2 ho6 hg6 n2 hS5
              have hkc : k < 12 := by omega
              obtain ⟨p, hp⟩ : ∃ p, p = 8 * k := ⟨_, rfl⟩
              obtain ⟨q, hq⟩ : ∃ q, q = 8 * k + 8 := ⟨_, rfl⟩
              have e1 : IntKind.i64.wrap ((8 : Int) * (k : Int)) = (p : Int) := by rw [IntKind.wrap_i64]; omega
              have e2 : IntKind.i64.wrap ((8 : Int) * IntKind.i64.wrap ((k : Int) + 1)) = (q : Int) := by
                have : IntKind.i64.wrap ((k : Int) + 1) = (k : Int) + 1 := by rw [IntKind.wrap_i64]; omega
                rw [this, IntKind.wrap_i64]; omega
              have e3 : (q : Int) ≤ ((c - 108 : Nat) : Int) := by omega
              have e4 : p ≤ q := by omega
              have e5 : ¬ c - 108 = p := by omega
              have e6 : q - p = 8 := by omega
              have hVb := V1.out w7.drew (off + 108 + p) 8 (c - 108 - p) HS6.out.bel.drew (by omega) rfl (by omega) (by omega)
              have cvs := run_str hVb
              have HSd := Lib.hid (HS6.out.later ((Below.refl _ _).alloc (Nat.le_refl _) (.cells #[.string ⟨(valR l k).toArray⟩] 9)).drew)
              have n3A := (HS6.out.later ((Below.refl _ _).alloc (Nat.le_refl _) (.cells #[.string ⟨(valR l k).toArray⟩] 9) : Below w7.heap.size w7 _)).node.c3
              clear hVb hp hq
              go_region_law (first
                | (refine step_append_rowG _ rfl (.tmp 126) (.tmp 137) 68 rfl (w.heap.size + 2) 9 1 _ 16 Tryz.underlying68 info_strvB rfl (by omega) (.slice Av k cv) k _ rfl HSd.out.ov HSd.out.low ⟨w7.heap.size, 0, none⟩ [.string ⟨(valR l k).toArray⟩] 1 1 rfl rfl (Row.of_block (t := 9) (fr := (0, 0)) (heap_alloc_new w7 _)) (by simp [Value.oneCell']) (by omega) (by omega) ?_
                   intro v8 w8 ho8 hg8
                   obtain ⟨Av', cv', rfl, hn8, hS8⟩ := HSd.out.addVal ho8.out hg8.out
                   have m3 := hn8.c3
                   have g3 := Lib.frozen_of_heap hn8 3))
              all_goals go_wp2
              all_goals go_roundw
              all_goals first
                | exact ⟨k + 1, by omega, by go_num, ⟨(key : Int) + 1, by go_num, by omega, by omega, HX1⟩, hT1, Ak', ck', Av', cv', by rw [hIA.out, hVA.out]; exact hS8⟩
                | (simp [intOf]; omega)
            · have hend := KEnd.out fx hT1.out h0
              have HEnd := Lib.hid hend
              have hne : (fx == 0) = false := by rw [beq_eq_false_iff_ne]; exact h0
              have hne2 : (fx != 0) = true := by rw [bne_iff_ne]; exact h0
              clear hend hfx
              go_wp2_with (first
                | (go_at_call 90; (with_reducible refine (K1.out _ _ (by omega) (by omega) (by omega) _ HS.out.bel).mono ?_); rintro e w5 ⟨hb5, hlo, _⟩; obtain rfl := hlo HSm.out; have hS5 := HS.out.later hb5; have z0 := hS5.zero.c0; have z1 := hS5.zero.c1; have z2 := hS5.zero.c2; have z3 := hS5.zero.c3; have y0 := Lib.frozen_of_heap hS5.zero 0; have y1 := Lib.frozen_of_heap hS5.zero 1; have y2 := Lib.frozen_of_heap hS5.zero 2; have y3 := Lib.frozen_of_heap hS5.zero 3)
                | (go_at_call 65; (with_reducible refine (FO.out _).mono ?_); rintro e w' ⟨rfl, rfl⟩))
              refine bodyPost_ret (results_nod Tryz.results77 _ _ w.heap.size 0 false (.slice none 0 0) (.slice none 0 0) rfl rfl rfl (hS5.zero.store _ _ _ _)) rfl ?_
              exact rdPost_bad HEnd.out (below_store7 hS5.bel (Nat.le_refl _) _ _ _ _)
        · obtain rfl : k = cnt := by omega
          have hEall : keyErr (-1) (keysR l) = 0 := by
            have := hE.out
            rwa [List.take_of_length_le (by have := LN.out.1; omega)] at this
          rw [List.take_of_length_le (by have := LN.out.2.1; omega), List.take_of_length_le (by have := LN.out.2.2; omega)] at hS
          have HG1 := Lib.hid (GD.out wr Ak ck Av cv k hf hEall rfl hS)
          have hz := hS.zero
          have z0 := hS.zero.c0; have z1 := hS.zero.c1; have z2 := hS.zero.c2; have z3 := hS.zero.c3; have y0 := Lib.frozen_of_heap hS.zero 0; have y1 := Lib.frozen_of_heap hS.zero 1; have y2 := Lib.frozen_of_heap hS.zero 2; have y3 := Lib.frozen_of_heap hS.zero 3
          have x0 := hS.node.c0; have x1 := hS.node.c1; have x2 := hS.node.c2; have x3 := hS.node.c3
          go_wp2
          refine bodyPost_ret (results_nod Tryz.results77 _ _ w.heap.size tree leaf (.slice Ak k ck) (.slice Av k cv) rfl rfl rfl (hz.store _ _ _ _)) rfl ?_
          exact HG1.out

end Go.Proofs.YtnjlganofjkpfaaGreat
