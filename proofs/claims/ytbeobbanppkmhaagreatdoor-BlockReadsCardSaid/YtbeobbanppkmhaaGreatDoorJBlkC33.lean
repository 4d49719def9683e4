/-
  Joined: SupF, NodC, NodD, NodE, NodF, NodL.
-/
import Derived.Lib.SmallJoins
import Derived.ArgAppend
import Derived.Test.YtbeobbanppkmhaaGreatDoorJBlkC25
import Derived.Test.YtbeobbanppkmhaaGreatDoorJBlkC30
import Derived.Test.YtbeobbanppkmhaaGreatDoorJBlkC14
import Derived.Test.YtbeobbanppkmhaaGreatDoorJBlkC21
import Derived.Test.YtbeobbanppkmhaaGreatDoorJBlkC02
/-
  Layer 6's reference: Put.
-/
namespace Go.Proofs.YtbeobbanppkmhaaGreatDoor
open Go.RowKit
set_option linter.unusedVariables false
set_option linter.unusedSimpArgs false

end Go.Proofs.YtbeobbanppkmhaaGreatDoor

/-
  Layer 7's begin; what an encoding is made of.
-/
namespace Go.Proofs.YtbeobbanppkmhaaGreatDoor
open Go.RowKit
set_option linter.unusedVariables false
set_option linter.unusedSimpArgs false

/-- what stands ahead of the keys -/
def beginF (tree : Int) (leaf : Bool) (cnt : Int) : List (Int × Int) := [(1, if leaf = true then 1 else 0), (1, tree), (2, cnt), (2, (widN tree leaf : Int)), (2, (capN (widN tree leaf) : Int)), (4, 0)]

set_option maxRecDepth 100000 in
set_option maxHeartbeats 400000 in
theorem begin_any (tree : Int) (leaf : Bool) (cnt : Int) (w : World) (B : Nat) (hB : B ≤ w.heap.size) :
    Calls Tryz.prog 59 #[.int .i64 tree, .bool leaf, .int .i64 cnt] w fun e w' => ∃ v', e = .returned v' ∧ w'.ownsRow B 118 2 v' 6 (flds (beginF tree leaf cnt)) ∧ Below B w w' := by
  have WD := Lib.hid (fun W => Width_any tree leaf W _ rfl)
  have MX := Lib.hid (fun W => Max_any tree leaf W _ rfl)
  have hF : ∀ leaf, flds (beginF tree leaf cnt) = [.int .i64 1, .int .i64 (if leaf = true then 1 else 0), .int .i64 1, .int .i64 tree, .int .i64 2, .int .i64 cnt, .int .i64 2, .int .i64 (widN tree leaf : Int), .int .i64 2, .int .i64 (capN (widN tree leaf) : Int), .int .i64 4, .int .i64 0] := fun _ => rfl
  rw [hF]
  generalize widN tree leaf = wd at *
  generalize capN wd = mx at *
  clear hF
  have hlit : ∀ x : Int, _ := fun x => World.ownsRow_lit (base := B) (e := 118) (size := 2) w #[.int .i64 1, .int .i64 x, .int .i64 1, .int .i64 tree, .int .i64 2, .int .i64 cnt, .int .i64 2, .int .i64 (wd : Int), .int .i64 2, .int .i64 (mx : Int), .int .i64 4, .int .i64 0] 6 hB (by simp [maxLen]) rfl
  have hbel : ∀ o, Below B w (w.alloc o) := fun o => (Below.refl _ _).alloc hB _
  cases leaf
  all_goals
    go_enter Tryz.func59, Tryz.ntmps59
    go_wp2_with (first
      | (go_at_call 93; (with_reducible refine (WD.out _).mono ?_); rintro e w' ⟨rfl, rfl⟩)
      | (go_at_call 61; (with_reducible refine (MX.out _).mono ?_); rintro e w' ⟨rfl, rfl⟩))
    go_ret
    exact ⟨_, rfl, hlit _, hbel _⟩

/-! ### the bytes -/
end Go.Proofs.YtbeobbanppkmhaaGreatDoor

/-
  Layer 7's Put.
-/
namespace Go.Proofs.YtbeobbanppkmhaaGreatDoor
open Go.RowKit
set_option linter.unusedVariables false
set_option linter.unusedSimpArgs false

theorem Flds.of_own7 {w : World} {base : Nat} {e : TypeId} {n : Nat} {v : Value} {l : List (Int × Int)} (h : w.ownsRow base e 2 v n (flds l)) (hb : ∀ p ∈ l, i64b p.1 ∧ i64b p.2) (hl : l.length = n) : ∃ A c, v = .slice A n c ∧ Flds w A n c l := by
  obtain ⟨A, c, rfl, h1, h2⟩ := ownsRow_form h
  exact ⟨A, c, rfl, ⟨hl, h1, by simpa [maxLen] using h2, Row.of_own h, hb⟩⟩

theorem NodAt.keep {w w' : World} {p B : Nat} {tree : Int} {leaf : Bool} {s1 s2 : Value} (h : NodAt w p tree leaf s1 s2) (hb : Below B w w') (hp : p < B) : NodAt w' p tree leaf s1 s2 := (hb.block _ hp).trans h

theorem begin_bds {tree : Int} {leaf : Bool} {cnt : Int} (ht : i64b tree) (hc : i64b cnt) : ∀ p ∈ beginF tree leaf cnt, i64b p.1 ∧ i64b p.2 := by
  have hwc : widN tree leaf ≤ 24 ∧ capN (widN tree leaf) ≤ 18 := by rcases widN_cases tree leaf with ⟨a, b⟩ | ⟨a, b⟩ | ⟨a, b⟩ | ⟨a, b⟩ | ⟨a, b⟩ <;> rw [b, a] <;> omega
  obtain ⟨hw1, hw2⟩ := hwc
  intro p hp
  simp only [beginF, List.mem_cons, List.not_mem_nil, or_false] at hp
  rcases hp with rfl | rfl | rfl | rfl | rfl | rfl
  · cases leaf <;> simp [i64b]
  · exact ⟨by simp [i64b], ht⟩
  · exact ⟨by simp [i64b], hc⟩
  · exact ⟨by simp [i64b], by simp only [i64b]; omega⟩
  · exact ⟨by simp [i64b], by simp only [i64b]; omega⟩
  · simp [i64b]

end Go.Proofs.YtbeobbanppkmhaaGreatDoor

/-
  Layer 7's Same, and the library's Equal and HasPrefix that it and Read call.
-/
namespace Go.Proofs.YtbeobbanppkmhaaGreatDoor
open Go.RowKit
set_option linter.unusedVariables false
set_option linter.unusedSimpArgs false

theorem str_ne {s s2 : ByteArray} (h : ¬ s = s2) : (s.toList == s2.toList) = false := by
  rw [beq_eq_false_iff_ne]
  intro e
  apply h
  rw [Lib.toList_data, Lib.toList_data] at e
  cases s; cases s2
  congr
  exact Array.toList_inj.1 e

set_option maxRecDepth 100000 in
set_option maxHeartbeats 400000 in
theorem nodEqual_any (A1 : Option Addr) (n1 c1 : Nat) (l1 : List UInt8) (A2 : Option Addr) (n2 c2 : Nat) (l2 : List UInt8) (w : World) (h1 : Bytes8 w A1 n1 c1 l1) (h2 : Bytes8 w A2 n2 c2 l2) (r : Bool) (hr : decide (l1 = l2) = r) :
    Calls Tryz.prog 84 #[.slice A1 n1 c1, .slice A2 n2 c2] w fun e w' => e = .returned (.bool r) ∧ w = w' := by
  have cv1 := run_str h1
  have cv2 := run_str h2
  clear h1 h2
  go_enter Tryz.func84, Tryz.ntmps84
  go_wp2
  go_ret
  exact ⟨ret_bool (by rw [← hr, Bool.eq_iff_iff]; simp), rfl⟩

set_option maxRecDepth 100000 in
set_option maxHeartbeats 400000 in
theorem HasPrefix_any (A1 : Option Addr) (n1 c1 : Nat) (l1 : List UInt8) (A2 : Option Addr) (n2 c2 : Nat) (l2 : List UInt8) (w : World) (h1 : Bytes8 w A1 n1 c1 l1) (h2 : Bytes8 w A2 n2 c2 l2) (hl : n2 ≤ n1) (r : Bool) (hr : decide (l1.take n2 = l2) = r) :
    Calls Tryz.prog 92 #[.slice A1 n1 c1, .slice A2 n2 c2] w fun e w' => e = .returned (.bool r) ∧ w = w' := by
  have hcut : Bytes8 w A1 n2 c1 (l1.take n2) := ⟨by rw [List.length_take, h1.len]; omega, Nat.le_trans hl h1.cap, h1.most, by rw [← u8s_take]; exact h1.row.take _⟩
  have E := Lib.hid (fun c (hc : c = c1) => hc ▸ nodEqual_any A1 n2 c1 (l1.take n2) A2 n2 c2 l2 w hcut h2 r hr)
  have hn1 := h1.le
  have hc1 := h1.cap
  have hm1 := h1.most
  clear h1 h2 hcut
  go_enter Tryz.func92, Tryz.ntmps92
  go_wp2_with (go_at_call 84; (with_reducible refine (E.out _ rfl).mono ?_); rintro e w' ⟨rfl, rfl⟩)
  go_ret
  exact ⟨rfl, rfl⟩

end Go.Proofs.YtbeobbanppkmhaaGreatDoor

/-
  Layer 7's Same.
-/
namespace Go.Proofs.YtbeobbanppkmhaaGreatDoor
open Go.RowKit
set_option linter.unusedVariables false
set_option linter.unusedSimpArgs false

/-- are all fields equal? -/
def sameN (a b : Nod) : Bool := decide (a.tree = b.tree) && (decide (a.leaf = b.leaf) && (decide (a.keys = b.keys) && decide (a.vals = b.vals)))
theorem sameN_iff {a b : Nod} : sameN a b = true ↔ a = b := by
  obtain ⟨t, l, k, v⟩ := a
  obtain ⟨t2, l2, k2, v2⟩ := b
  simp [sameN]
theorem sameN_refl (a : Nod) : sameN a a = true := sameN_iff.2 rfl

/-- two nodes in blocks p and p + 1, and all below p as it was -/
structure Two7 (w0 w : World) (p : Nat) (a b : Nod) (sa1 sa2 sb1 sb2 : Value) : Prop where
  fst : NodAt w p a.tree a.leaf sa1 sa2
  snd : NodAt w (p + 1) b.tree b.leaf sb1 sb2
  bel : Below p w0 w
theorem Two7.later {w0 w w' : World} {p : Nat} {a b : Nod} {sa1 sa2 sb1 sb2 : Value} (h : Two7 w0 w p a b sa1 sa2 sb1 sb2) (hb : Below w.heap.size w w') : Two7 w0 w' p a b sa1 sa2 sb1 sb2 :=
  ⟨h.fst.later hb, h.snd.later hb, h.bel.trans (hb.mono (Nat.le_of_lt (block_lt h.fst)))⟩
theorem two_nodes (w : World) (a b : Nod) (sa1 sa2 sb1 sb2 : Value) : Two7 w ((w.alloc (.cells #[.int .i64 a.tree, .bool a.leaf, sa1, sa2] 41)).alloc (.cells #[.int .i64 b.tree, .bool b.leaf, sb1, sb2] 41)) w.heap.size a b sa1 sa2 sb1 sb2 := by
  have h1 := NodAt.new w a.tree a.leaf sa1 sa2
  have h2 := NodAt.new (w.alloc (.cells #[.int .i64 a.tree, .bool a.leaf, sa1, sa2] 41)) b.tree b.leaf sb1 sb2
  have hs : (w.alloc (.cells #[.int .i64 a.tree, .bool a.leaf, sa1, sa2] 41)).heap.size = w.heap.size + 1 := by simp
  rw [hs] at h2
  have b1 : Below w.heap.size w (w.alloc (.cells #[.int .i64 a.tree, .bool a.leaf, sa1, sa2] 41)) := (Below.refl _ _).alloc (Nat.le_refl _) _
  have b2 : Below (w.alloc (.cells #[.int .i64 a.tree, .bool a.leaf, sa1, sa2] 41)).heap.size (w.alloc (.cells #[.int .i64 a.tree, .bool a.leaf, sa1, sa2] 41)) ((w.alloc (.cells #[.int .i64 a.tree, .bool a.leaf, sa1, sa2] 41)).alloc (.cells #[.int .i64 b.tree, .bool b.leaf, sb1, sb2] 41)) := (Below.refl _ _).alloc (Nat.le_refl _) _
  exact ⟨h1.later b2, h2, b1.trans (b2.mono (by omega))⟩

end Go.Proofs.YtbeobbanppkmhaaGreatDoor

/-
  Layer 7: the reference's Same.
-/
namespace Go.Proofs.YtbeobbanppkmhaaGreatDoor
open Go.RowKit
set_option linter.unusedVariables false
set_option linter.unusedSimpArgs false

set_option maxRecDepth 100000 in
set_option maxHeartbeats 3200000 in
theorem refSame_any7 (w : World) (a b : Nod) (A : Option Addr) (n c : Nat) (A2 : Option Addr) (n2 c2 : Nat) (B : Option Addr) (m d : Nat) (B2 : Option Addr) (m2 d2 : Nat) (ha : NodIn w a A n c A2 n2 c2) (hb : NodIn w b B m d B2 m2 d2) (r : Bool) (hr : sameN a b = r) :
    Calls Tryz.prog 15 #[nodV a A n c A2 n2 c2, nodV b B m d B2 m2 d2] w fun e w' => e = .returned (.bool r) ∧ Below w.heap.size w w' := by
  have T0 := two_nodes w a b (.slice A n c) (.slice A2 n2 c2) (.slice B m d) (.slice B2 m2 d2)
  have k0 := T0.fst.c0
  have k1 := T0.fst.c1
  have k2 := T0.fst.c2
  have k3 := T0.fst.c3
  have l0 := T0.snd.c0
  have l1 := T0.snd.c1
  have l2 := T0.snd.c2
  have l3 := T0.snd.c3
  have HT := Lib.hid T0
  have HA := Lib.hid ha
  have HB := Lib.hid hb
  have han := ha.keys.le
  have hbn := hb.keys.le
  have han2 : n2 ≤ 9223372036854775807 := Nat.le_trans ha.vals.cap ha.vals.most
  have hbn2 : m2 ≤ 9223372036854775807 := Nat.le_trans hb.vals.cap hb.vals.most
  have hla := ha.keys.len
  have hlb := hb.keys.len
  have hva := ha.vals.len
  have hvb := hb.vals.len
  clear T0 ha hb
  obtain ⟨tree, leaf, ks, vs⟩ := a
  obtain ⟨tree2, leaf2, ks2, vs2⟩ := b
  simp only [sameN] at hr
  dsimp only at *
  simp only [nodV]
  by_cases h1 : tree = tree2
  · subst h1
    by_cases h2 : leaf = leaf2
    · subst h2
      by_cases h3 : n = m
      · subst h3
        by_cases h4 : n2 = m2
        · subst h4
          have HR : Hid (r = (decide (ks = ks2) && decide (vs = vs2))) := by rw [← hr]; simp [Hid]
          clear hr
          go_enter Tryz.func15, Tryz.ntmps15
          go_wp2
          generalize (w.alloc (.cells #[.int .i64 tree, .bool leaf, .slice A n c, .slice A2 n2 c2] 41)).alloc (.cells #[.int .i64 tree, .bool leaf, .slice B n d, .slice B2 n2 d2] 41) = W2 at *
          go_loopw [5] (fun i wr => ∃ k : Nat, k ≤ n ∧ i = .int .i64 k ∧ Hid (ks.take k = ks2.take k) ∧ Hid (Two7 w wr w.heap.size ⟨tree, leaf, ks, vs⟩ ⟨tree, leaf, ks2, vs2⟩ (.slice A n c) (.slice A2 n2 c2) (.slice B n d) (.slice B2 n2 d2))) (fun i _ => n - (intOf i).toNat)
          case atStart => exact ⟨0, by omega, rfl, rfl, HT⟩
          case round =>
            clear k0 k1 k2 k3 l0 l1 l2 l3
            obtain ⟨k, hk, rfl, hE, hT⟩ := hrel
            have k2 := hT.out.fst.c2
            have l2 := hT.out.snd.c2
            by_cases hlt : k < n
            · obtain ⟨b, off, rfl, hb, hcell⟩ := HA.out.keys.row.lit (by rw [i64s_length]; show 0 < ks.length; omega)
              obtain ⟨b2, off2, rfl, hb2, hcell2⟩ := HB.out.keys.row.lit (by rw [i64s_length]; show 0 < ks2.length; omega)
              have hkl : k < ks.length := by omega
              have hkl2 : k < ks2.length := by omega
              have hc1 : wr.cell? ⟨b, off + k, none⟩ = some (.int .i64 ks[k]) := (hT.out.bel.cell (p := ⟨b, off + k, none⟩) hb).trans (hcell k _ (i64s_at ks k hkl))
              have hc2 : wr.cell? ⟨b2, off2 + k, none⟩ = some (.int .i64 ks2[k]) := (hT.out.bel.cell (p := ⟨b2, off2 + k, none⟩) hb2).trans (hcell2 k _ (i64s_at ks2 k hkl2))
              clear hcell hcell2
              by_cases hx : ks[k] = ks2[k]
              · have hT1 : Hid (ks.take (k + 1) = ks2.take (k + 1)) := by
                  rw [List.take_succ_eq_append_getElem hkl, List.take_succ_eq_append_getElem hkl2, hE.out, hx]; rfl
                rw [hx] at hc1
                generalize ks2[k] = x at *
                clear hx
                go_wp2
                go_region
                go_wp2
                go_roundw
                case rel => exact ⟨k + 1, by omega, by go_num, hT1, hT.out.later ((Below.refl _ _).drew)⟩
                case measure => simp [intOf]; omega
              · obtain rfl : r = false := by
                  rw [HR.out]
                  have : decide (ks = ks2) = false := by
                    apply decide_eq_false
                    intro h
                    subst h
                    exact hx rfl
                  rw [this]; rfl
                generalize ks[k] = x at *
                generalize ks2[k] = y at *
                go_wp2
                go_region
                go_wp2
                go_ret
                exact ⟨rfl, hT.out.bel.drew⟩
            · obtain rfl : k = n := by omega
              have heq : ks = ks2 := by
                have := hE.out
                rwa [List.take_of_length_le (by omega), List.take_of_length_le (by omega)] at this
              have HR2 : Hid (r = decide (vs = vs2)) := by rw [HR.out, decide_eq_true heq]; simp [Hid]
              clear HR hE
              go_wp2
              go_loopw [6] (fun i wr => ∃ j : Nat, j ≤ n2 ∧ i = .int .i64 j ∧ Hid (vs.take j = vs2.take j) ∧ Hid (Two7 w wr w.heap.size ⟨tree, leaf, ks, vs⟩ ⟨tree, leaf, ks2, vs2⟩ (.slice A k c) (.slice A2 n2 c2) (.slice B k d) (.slice B2 n2 d2))) (fun i _ => n2 - (intOf i).toNat)
              case atStart => exact ⟨0, by omega, rfl, rfl, hT⟩
              case round =>
                clear k2 l2 hT
                obtain ⟨j, hj, rfl, hE, hT⟩ := hrel
                have k3 := hT.out.fst.c3
                have l3 := hT.out.snd.c3
                by_cases hlt : j < n2
                · obtain ⟨b, off, rfl, hb, hcell⟩ := strs_cell HA.out.vals (by omega)
                  obtain ⟨b2, off2, rfl, hb2, hcell2⟩ := strs_cell HB.out.vals (by omega)
                  have hkl : j < vs.length := by omega
                  have hkl2 : j < vs2.length := by omega
                  obtain ⟨s, hse, _, hcs⟩ := hcell j hkl
                  obtain ⟨s2, hse2, _, hcs2⟩ := hcell2 j hkl2
                  have hc1 : wr.cell? ⟨b, off + j, none⟩ = some (.string s) := (hT.out.bel.cell (p := ⟨b, off + j, none⟩) hb).trans hcs
                  have hc2 : wr.cell? ⟨b2, off2 + j, none⟩ = some (.string s2) := (hT.out.bel.cell (p := ⟨b2, off2 + j, none⟩) hb2).trans hcs2
                  clear hcs hcs2 hcell hcell2
                  dsimp only at hse hse2
                  by_cases hx : vs[j] = vs2[j]
                  · have hT1 : Hid (vs.take (j + 1) = vs2.take (j + 1)) := by
                      rw [List.take_succ_eq_append_getElem hkl, List.take_succ_eq_append_getElem hkl2, hE.out, hx]; rfl
                    obtain rfl : s = s2 := by rw [hse, hse2, hx]
                    clear hx hse hse2
                    go_wp2
                    go_region
                    go_wp2
                    go_roundw
                    case rel => exact ⟨j + 1, by omega, by go_num, hT1, hT.out.later ((Below.refl _ _).drew)⟩
                    case measure => simp [intOf]; omega
                  · obtain rfl : r = false := by
                      rw [HR2.out]
                      apply decide_eq_false
                      intro h
                      subst h
                      exact hx rfl
                    have hne : ¬ s = s2 := by
                      intro e
                      rw [hse, hse2] at e
                      injection e with e
                      exact hx (by have := congrArg Array.toList e; simpa using this)
                    have hne2 := str_ne hne
                    have hne3 : (!s.toList == s2.toList) = true := by rw [hne2]; rfl
                    clear hx hse hse2
                    go_wp2
                    go_region
                    go_wp2
                    go_ret
                    exact ⟨rfl, hT.out.bel.drew⟩
                · obtain rfl : j = n2 := by omega
                  obtain rfl : r = true := by
                    rw [HR2.out]
                    apply decide_eq_true
                    have := hE.out
                    rwa [List.take_of_length_le (by omega), List.take_of_length_le (by omega)] at this
                  go_wp2
                  go_ret
                  exact ⟨rfl, hT.out.bel⟩
        · obtain rfl : false = r := by
            rw [← hr]
            have : decide (vs = vs2) = false := by
              apply decide_eq_false
              intro h; subst h; exact h4 (hva.symm.trans hvb)
            rw [this]; simp
          have hne : ((n2 : Int) != (m2 : Int)) = true := by rw [bne_iff_ne]; omega
          clear hr
          go_enter Tryz.func15, Tryz.ntmps15
          go_wp2
          go_ret
          exact ⟨rfl, HT.out.bel⟩
      · obtain rfl : false = r := by
          rw [← hr]
          have : decide (ks = ks2) = false := by
            apply decide_eq_false
            intro h; subst h; exact h3 (hla.symm.trans hlb)
          rw [this]; simp
        have hne : ((n : Int) != (m : Int)) = true := by rw [bne_iff_ne]; omega
        clear hr
        go_enter Tryz.func15, Tryz.ntmps15
        go_wp2
        go_ret
        exact ⟨rfl, HT.out.bel⟩
    · obtain rfl : false = r := by rw [← hr]; simp [h2]
      have hne : (leaf != leaf2) = true := by cases leaf <;> cases leaf2 <;> first | rfl | exact absurd rfl h2
      clear hr
      go_enter Tryz.func15, Tryz.ntmps15
      go_wp2
      go_ret
      exact ⟨rfl, HT.out.bel⟩
  · obtain rfl : false = r := by rw [← hr]; simp [h1]
    have hne : (tree != tree2) = true := by rw [bne_iff_ne]; exact h1
    clear hr
    go_enter Tryz.func15, Tryz.ntmps15
    go_wp2
    go_ret
    exact ⟨rfl, HT.out.bel⟩

end Go.Proofs.YtbeobbanppkmhaaGreatDoor
