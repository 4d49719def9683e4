/-
  Joined: NodB, SpnA, WlkMath, BldScan, WlkStep.
-/
import Derived.LoopTactic
import Derived.Test.YtnjlganofjkpfaaGreatJBldB16
import Derived.Test.YtnjlganofjkpfaaGreatJBldB25
import Derived.BigQuiet
import Derived.Test.YtnjlganofjkpfaaGreatChecked
import Derived.Test.YtnjlganofjkpfaaGreatJBldB29
/-
  Layer 7's nodes in memory; Right; begin.
-/
namespace Go.Proofs.YtnjlganofjkpfaaGreat
open Go.RowKit
set_option linter.unusedVariables false
set_option linter.unusedSimpArgs false

/-- a node as a value -/
def nodV (nd : Nod) (A : Option Addr) (n c : Nat) (A2 : Option Addr) (n2 c2 : Nat) : Value := .agg #[.int .i64 nd.tree, .bool nd.leaf, .slice A n c, .slice A2 n2 c2]

/-- its parts in memory -/
structure NodIn (w : World) (nd : Nod) (A : Option Addr) (n c : Nat) (A2 : Option Addr) (n2 c2 : Nat) : Prop where
  keys : Ints w A n c nd.keys
  vals : Strs w A2 n2 c2 nd.vals
  tb : i64b nd.tree
  kb : ∀ k ∈ nd.keys, i64b k
  vb : ∀ v ∈ nd.vals, v.length ≤ 9223372036854775807
theorem NodIn.below {w w' : World} {nd : Nod} {A : Option Addr} {n c : Nat} {A2 : Option Addr} {n2 c2 : Nat} (h : NodIn w nd A n c A2 n2 c2) (hb : Below w.heap.size w w') : NodIn w' nd A n c A2 n2 c2 := ⟨h.keys.below hb, h.vals.below hb, h.tb, h.kb, h.vb⟩
theorem NodIn.zero (w : World) : NodIn w Nod.zero none 0 0 none 0 0 := ⟨Ints.nil w, Strs.nil w, by simp [Nod.zero, i64b], by simp [Nod.zero], by simp [Nod.zero]⟩

/-- a node in block p -/
def NodAt (w : World) (p : Nat) (tree : Int) (leaf : Bool) (s1 s2 : Value) : Prop := w.heap[p]? = some (Obj.cells #[.int .i64 tree, .bool leaf, s1, s2] 70 (0, 0))
section
variable {w : World} {p : Nat} {tree : Int} {leaf : Bool} {s1 s2 : Value}
theorem NodAt.c0 (h : NodAt w p tree leaf s1 s2) : w.cell? ⟨p, 0, none⟩ = some (.int .i64 tree) := by rw [cell_of_row w p 0 _ _ _ h]; rfl
theorem NodAt.c1 (h : NodAt w p tree leaf s1 s2) : w.cell? ⟨p, 1, none⟩ = some (.bool leaf) := by rw [cell_of_row w p 1 _ _ _ h]; rfl
theorem NodAt.c2 (h : NodAt w p tree leaf s1 s2) : w.cell? ⟨p, 2, none⟩ = some s1 := by rw [cell_of_row w p 2 _ _ _ h]; rfl
theorem NodAt.c3 (h : NodAt w p tree leaf s1 s2) : w.cell? ⟨p, 3, none⟩ = some s2 := by rw [cell_of_row w p 3 _ _ _ h]; rfl
theorem NodAt.later {w' : World} (h : NodAt w p tree leaf s1 s2) (hb : Below w.heap.size w w') : NodAt w' p tree leaf s1 s2 := (hb.block _ (block_lt h)).trans h
theorem NodAt.new (w : World) (tree : Int) (leaf : Bool) (s1 s2 : Value) : NodAt (w.alloc (.cells #[.int .i64 tree, .bool leaf, s1, s2] 70)) w.heap.size tree leaf s1 s2 := heap_alloc_new w _
end

/-! ### Right -/
/-- the first k keys and values -/
def okN (nd : Nod) (k : Nat) : Bool := (nd.vals.take k).all (fun v => v.length == widN nd.tree nd.leaf) && upFrom (-1) (nd.keys.take k)

theorem capN_pos {tree : Int} {leaf : Bool} : 0 < capN (widN tree leaf) ↔ widN tree leaf ≠ 0 := by
  rcases widN_cases tree leaf with ⟨h1, h2⟩ | ⟨h1, h2⟩ | ⟨h1, h2⟩ | ⟨h1, h2⟩ | ⟨h1, h2⟩ <;> rw [h2, h1] <;> simp

theorem rightN_parts (nd : Nod) : rightN nd = (holdsN nd.tree nd.leaf nd.keys.length && decide (nd.vals.length = nd.keys.length) && okN nd nd.keys.length) := by
  by_cases hl : nd.vals.length = nd.keys.length
  · have e1 : nd.vals.take nd.keys.length = nd.vals := List.take_of_length_le (by omega)
    have e2 : nd.keys.take nd.keys.length = nd.keys := List.take_of_length_le (Nat.le_refl _)
    simp only [rightN, holdsN, okN, e1, e2, hl, decide_true, Bool.and_true]
    have hp := @capN_pos nd.tree nd.leaf
    have e3 : decide (0 < capN (widN nd.tree nd.leaf)) = decide (widN nd.tree nd.leaf ≠ 0) := by
      rw [Bool.eq_iff_iff, decide_eq_true_eq, decide_eq_true_eq]; exact hp
    rw [e3]
    generalize decide (widN nd.tree nd.leaf ≠ 0) = x1
    generalize decide (nd.keys.length ≤ capN (widN nd.tree nd.leaf)) = x2
    generalize (nd.vals.all fun v => v.length == widN nd.tree nd.leaf) = x3
    generalize upFrom (-1) nd.keys = x4
    generalize (nd.leaf || decide (0 < nd.keys.length)) = x5
    cases x1 <;> cases x2 <;> cases x3 <;> cases x4 <;> cases x5 <;> rfl
  · simp [rightN, hl]

theorem okN_step {nd : Nod} {k : Nat} (hk : k < nd.keys.length) (hv : k < nd.vals.length) : okN nd (k + 1) = (okN nd k && ((nd.vals[k].length == widN nd.tree nd.leaf) && (decide (prevK (-1) nd.keys k < nd.keys[k]) && decide (nd.keys[k] ≤ maxK)))) := by
  rw [okN, okN, upFrom_step hk, List.take_succ_eq_append_getElem hv, List.all_append]
  simp only [List.all_cons, List.all_nil, Bool.and_true]
  generalize (nd.vals.take k).all (fun v => v.length == widN nd.tree nd.leaf) = x1
  generalize upFrom (-1) (nd.keys.take k) = x2
  generalize (nd.vals[k].length == widN nd.tree nd.leaf) = x3
  cases x1 <;> cases x2 <;> cases x3 <;> rfl

theorem okN_false {nd : Nod} (k : Nat) (h : okN nd k = false) : okN nd nd.keys.length = false ∨ nd.vals.length ≠ nd.keys.length := by
  by_cases hl : nd.vals.length = nd.keys.length
  · left
    simp only [okN, Bool.and_eq_false_iff] at h ⊢
    rcases h with h | h
    · left
      rw [List.all_eq_false] at h ⊢
      obtain ⟨x, hx, h⟩ := h
      rw [List.take_of_length_le (by omega)]
      exact ⟨x, List.mem_of_mem_take hx, h⟩
    · right
      rw [List.take_of_length_le (Nat.le_refl _)]
      exact upFrom_take k h
  · exact .inr hl

theorem prevK_bd {l : List Int} {i : Nat} (hi : i ≤ l.length) (h : upFrom (-1) (l.take i) = true) : -1 ≤ prevK (-1) l i ∧ prevK (-1) l i ≤ maxK := by
  simp only [prevK]
  split
  · exact ⟨by omega, by simp [maxK]⟩
  · have hm : l.getD (i - 1) 0 ∈ l.take i := by
      rw [List.getD_eq_getElem?_getD, List.getElem?_eq_getElem (by omega)]
      simp only [Option.getD_some]
      have : (l.take i)[i - 1]'(by rw [List.length_take]; omega) = l[i - 1] := List.getElem_take
      rw [← this]
      exact List.getElem_mem _
    have := upFrom_bounds h _ hm
    omega

theorem prevK_succ {p : Int} {l : List Int} {i : Nat} (h : i < l.length) : prevK p l (i + 1) = l[i] := by
  simp [prevK, List.getD_eq_getElem?_getD, h]

theorem followsE_ok {key p : Int} (hp : -1 ≤ p) : followsE key (p + 1) = 0 ↔ p < key ∧ key ≤ maxK := by
  unfold followsE maxK
  split
  · constructor <;> intro h <;> omega
  · split
    · constructor <;> intro h <;> omega
    · constructor <;> intro h <;> omega
theorem followsE_cases (key least : Int) : followsE key least = 0 ∨ followsE key least = 2 ∨ followsE key least = 8 := by
  unfold followsE
  split
  · simp
  · split <;> simp

theorem strs_cell {w : World} {A : Option Addr} {n c : Nat} {ll : List (List UInt8)} (h : Strs w A n c ll) (hp : 0 < n) :
    ∃ b off, A = some ⟨b, off, none⟩ ∧ b < w.heap.size ∧ ∀ k (hk : k < ll.length), ∃ s : ByteArray, s = ⟨ll[k].toArray⟩ ∧ s.size = ll[k].length ∧ w.cell? ⟨b, off + k, none⟩ = some (.string s) := by
  obtain ⟨b, off, e, hb, hc⟩ := h.row.lit (by rw [strV_length, h.len]; omega)
  exact ⟨b, off, e, hb, fun k hk => ⟨_, rfl, by simp [ByteArray.size], hc k _ (strV_at ll k hk)⟩⟩

set_option maxRecDepth 100000 in
set_option maxHeartbeats 1600000 in
theorem Right_any (w : World) (nd : Nod) (A : Option Addr) (n c : Nat) (A2 : Option Addr) (n2 c2 : Nat) (h : NodIn w nd A n c A2 n2 c2) (r : Bool) (hr : rightN nd = r) :
    Calls Tryz.prog 50 #[nodV nd A n c A2 n2 c2] w fun e w' => e = .returned (.bool r) ∧ Below w.heap.size w w' := by
  have hb : Below w.heap.size w (w.alloc (.cells #[.int .i64 nd.tree, .bool nd.leaf, .slice A n c, .slice A2 n2 c2] 70)) := (Below.refl _ _).alloc (Nat.le_refl _) _
  have hnew := NodAt.new w nd.tree nd.leaf (.slice A n c) (.slice A2 n2 c2)
  have hc0 := hnew.c0
  have hc1 := hnew.c1
  have hc2 := hnew.c2
  have hc3 := hnew.c3
  have HB := Lib.hid hb
  have HN := Lib.hid (h.below hb)
  have hn := h.keys.le
  have hn2 : n2 ≤ 9223372036854775807 := Nat.le_trans h.vals.cap h.vals.most
  have H := Lib.hid (fun r W hr => holds_any nd.tree nd.leaf n W r hn hr)
  have WD := Lib.hid (fun W => Width_any nd.tree nd.leaf W _ rfl)
  have HP := Lib.hid (rightN_parts nd)
  have HR := Lib.hid hr
  have hkl := h.keys.len
  have hvl := h.vals.len
  rw [hkl, hvl] at HP
  obtain ⟨tree, leaf, ks, vs⟩ := nd
  dsimp only at hb hc0 hc1 hc2 hc3 HB HN H WD HP hkl hvl hnew ⊢
  simp only [nodV]
  clear hr hb hnew
  cases hh : holdsN tree leaf n with
  | false =>
    have H0 := Lib.hid (fun W => H.out false W hh)
    obtain rfl : false = r := by rw [← HR.out, HP.out, hh]; rfl
    clear hh h
    go_enter Tryz.func50, Tryz.ntmps50
    go_wp2_with (go_at_call 64; (with_reducible refine (H0.out _).mono ?_); rintro e w' ⟨rfl, rfl⟩)
    go_ret
    exact ⟨rfl, HB.out⟩
  | true =>
    have H0 := Lib.hid (fun W => H.out true W hh)
    have HH := Lib.hid hh
    by_cases hl : n2 = n
    · subst hl
      by_cases hp : 0 < n2
      · obtain ⟨b, off, rfl, hb, hcell⟩ := HN.out.keys.row.lit (by rw [i64s_length]; exact hkl ▸ hp)
        obtain ⟨b2, off2, rfl, hb2, hcell2⟩ := strs_cell HN.out.vals hp
        have HC := Lib.hid hcell
        have HC2 := Lib.hid hcell2
        have HF : Hid (∀ k, okN ⟨tree, leaf, ks, vs⟩ k = false → r = false) := fun k hk => by
          rw [← HR.out, HP.out]
          rcases okN_false k hk with h1 | h1
          · have h1' : okN ⟨tree, leaf, ks, vs⟩ n2 = false := by rw [← hkl]; exact h1
            rw [h1', Bool.and_false]
          · exact absurd (hvl.trans hkl.symm) h1
        clear hh h hcell hcell2
        go_enter Tryz.func50, Tryz.ntmps50
        go_wp2_with (first
          | (go_at_call 64; (with_reducible refine (H0.out _).mono ?_); rintro e w' ⟨rfl, rfl⟩)
          | (go_at_call 28; (with_reducible refine (WD.out _).mono ?_); rintro e w' ⟨rfl, rfl⟩))
        generalize w.alloc (.cells #[.int .i64 tree, .bool leaf, .slice (some ⟨b, off, none⟩) n2 c, .slice (some ⟨b2, off2, none⟩) n2 c2] 70) = W at *
        have HWd : Hid (widN tree leaf ≤ 24) := by rcases widN_cases tree leaf with ⟨h1, _⟩ | ⟨h1, _⟩ | ⟨h1, _⟩ | ⟨h1, _⟩ | ⟨h1, _⟩ <;> (unfold Hid; omega)
        go_loop [4, 33] (fun m i => ∃ k : Nat, k ≤ n2 ∧ i = .int .i64 k ∧ ∃ l : Int, m = .int .i64 l ∧ 0 ≤ l ∧ l ≤ 281474976710656 ∧ Hid (l = prevK (-1) ks k + 1) ∧ Hid (okN ⟨tree, leaf, ks, vs⟩ k = true)) (fun _ i => n2 - (intOf i).toNat)
        case atStart => exact ⟨0, by omega, rfl, 0, rfl, by omega, by omega, rfl, rfl⟩
        case round =>
          obtain ⟨k, hk, rfl, l, rfl, hl0, hl1, hL, hO⟩ := hrel
          by_cases hlt : k < n2
          · have hkk : k < ks.length := by omega
            have hkv : k < vs.length := by omega
            have hcc := HC.out k _ (i64s_at ks k hkk)
            obtain ⟨s, hse, hsz, hcs⟩ := HC2.out k hkv
            clear hse
            have hst := okN_step (nd := ⟨tree, leaf, ks, vs⟩) hkk hkv
            rw [hO.out, Bool.true_and] at hst
            have hpb := prevK_bd (Nat.le_of_lt hkk) (by have := hO.out; simp only [okN, Bool.and_eq_true] at this; exact this.2)
            have hfo := followsE_ok (key := ks[k]) hpb.1
            rw [← hL.out] at hfo
            have hpn := prevK_succ (p := -1) hkk
            have hkb : ks[k] ≤ maxK → ks[k] ≤ 281474976710655 := fun h => h
            have F := Lib.hid (fun W (r : Int) (hx : followsE ks[k] l = r) => follows_any ks[k] l W r hx)
            have hbk := HN.out.kb _ (List.getElem_mem hkk)
            dsimp only at hst
            rcases followsE_cases ks[k] l with hf | hf | hf
            · obtain ⟨hf1, hf2⟩ := hfo.1 hf
              have F0 := Lib.hid (fun W => F.out W 0 hf)
              have hp0 : 0 ≤ ks[k] := by omega
              have hk2 := hkb hf2
              rw [decide_eq_true hf1, decide_eq_true hf2, Bool.and_true, Bool.and_true] at hst
              by_cases hw : vs[k].length = widN tree leaf
              · have hO1 : Hid (okN ⟨tree, leaf, ks, vs⟩ (k + 1) = true) := by rw [hst]; exact beq_iff_eq.2 hw
                have hL1 : Hid (ks[k] + 1 = prevK (-1) ks (k + 1) + 1) := by rw [hpn]; rfl
                rw [hw] at hsz
                have hne : ((s.size : Int) != (widN tree leaf : Int)) = false := by rw [hsz]; simp
                generalize ks[k] = key at *
                clear hst hpb hfo hpn hkb F hbk hf hf1 hf2 hw
                go_wp2_with (go_at_call 65; (with_reducible refine (F0.out _).mono ?_); rintro e w' ⟨rfl, rfl⟩)
                go_round
                case rel => exact ⟨k + 1, by omega, by go_num, _, by go_num, by omega, by omega, hL1, hO1⟩
                case measure => simp [intOf]; omega
              · have hz : r = false := HF.out (k + 1) (by rw [hst]; simpa using hw)
                subst hz
                rw [← hsz] at hw
                generalize ks[k] = key at *
                clear hst hpb hfo hpn hkb F hbk hf hf1 hf2
                have hne : ((s.size : Int) != (widN tree leaf : Int)) = true := by rw [bne_iff_ne]; omega
                go_wp2_with (go_at_call 65; (with_reducible refine (F0.out _).mono ?_); rintro e w' ⟨rfl, rfl⟩)
                go_ret
                exact ⟨rfl, HB.out⟩
            all_goals
              have hz : r = false := HF.out (k + 1) (by
                rw [hst]
                have hx : ¬ (prevK (-1) ks k < ks[k] ∧ ks[k] ≤ maxK) := fun h => by have := hfo.2 h; omega
                have hx2 : (decide (prevK (-1) ks k < ks[k]) && decide (ks[k] ≤ maxK)) = false := by
                  rw [Bool.eq_false_iff]; intro h; simp only [Bool.and_eq_true, decide_eq_true_eq] at h; exact hx h
                rw [hx2, Bool.and_false])
              subst hz
              have F0 := Lib.hid (fun W => F.out W _ hf)
              generalize ks[k] = key at *
              clear hst hpb hfo hpn hkb F hbk hf
              go_wp2_with (go_at_call 65; (with_reducible refine (F0.out _).mono ?_); rintro e w' ⟨rfl, rfl⟩)
              go_ret
              exact ⟨rfl, HB.out⟩
          · obtain rfl : k = n2 := by omega
            have hz : r = true := by
              rw [← HR.out, HP.out, hO.out, HH.out]; simp
            subst hz
            clear hO hL
            go_wp2
            go_ret
            exact ⟨rfl, HB.out⟩
      · obtain rfl : n2 = 0 := by omega
        obtain rfl : true = r := by rw [← HR.out, HP.out, HH.out]; simp [okN, upFrom]
        have H1 : Hid (∀ W, Calls Tryz.prog 64 #[.int .i64 tree, .bool leaf, .int .i64 0] W fun e w' => e = .returned (.bool true) ∧ W = w') := H0
        clear hh h
        go_enter Tryz.func50, Tryz.ntmps50
        go_wp2_with (first
          | (go_at_call 64; (with_reducible refine (H1.out _).mono ?_); rintro e w' ⟨rfl, rfl⟩)
          | (go_at_call 28; (with_reducible refine (WD.out _).mono ?_); rintro e w' ⟨rfl, rfl⟩))
        refine wp_loop_rounds 1 ?_
        rw [rounds_succ]
        go_wp2
        go_ret
        exact ⟨rfl, HB.out⟩
    · obtain rfl : false = r := by rw [← HR.out, HP.out]; simp [hl]
      have hne : ((n2 : Int) != (n : Int)) = true := by rw [bne_iff_ne]; omega
      clear hh h
      go_enter Tryz.func50, Tryz.ntmps50
      go_wp2_with (go_at_call 64; (with_reducible refine (H0.out _).mono ?_); rintro e w' ⟨rfl, rfl⟩)
      go_ret
      exact ⟨rfl, HB.out⟩

end Go.Proofs.YtnjlganofjkpfaaGreat

/-
  Layer 13: All, Right, Has, and the reference's Right and Has.
-/
namespace Go.Proofs.YtnjlganofjkpfaaGreat
open Go.RowKit
set_option linter.unusedVariables false
set_option linter.unusedSimpArgs false

/-- a span as a value -/
abbrev spnV (lo hi : Int) : Value := .agg #[.int .i64 lo, .int .i64 hi]

/-- a span that lies in the variable at block b -/
def SpnAt (W : World) (b : Nat) (lo hi : Int) : Prop := W.heap[b]? = some (.cells #[.int .i64 lo, .int .i64 hi] 78 (0, 0))
theorem SpnAt.lt {W : World} {b : Nat} {lo hi : Int} (h : SpnAt W b lo hi) : b < W.heap.size := block_lt h
theorem SpnAt.c0 {W : World} {b : Nat} {lo hi : Int} (h : SpnAt W b lo hi) : W.cell? ⟨b, 0, none⟩ = some (.int .i64 lo) := by rw [cell_of_row _ _ _ _ _ _ h]; rfl
theorem SpnAt.c1 {W : World} {b : Nat} {lo hi : Int} (h : SpnAt W b lo hi) : W.cell? ⟨b, 1, none⟩ = some (.int .i64 hi) := by rw [cell_of_row _ _ _ _ _ _ h]; rfl
theorem SpnAt.f0 {W : World} {b : Nat} {lo hi : Int} (h : SpnAt W b lo hi) (j : Nat) : W.frozen? ⟨b, j, none⟩ = false := frozen_of_row _ _ _ _ _ h
theorem SpnAt.below {W W' : World} {B b : Nat} {lo hi : Int} (h : SpnAt W b lo hi) (hb : Below B W W') (hlt : b < B) : SpnAt W' b lo hi := (hb.block b hlt).trans h
theorem SpnAt.later {W W' : World} {b : Nat} {lo hi : Int} (h : SpnAt W b lo hi) (hb : Below W.heap.size W W') : SpnAt W' b lo hi := h.below hb h.lt
theorem SpnAt.new (w : World) (lo hi : Int) : SpnAt (w.alloc (.cells #[.int .i64 lo, .int .i64 hi] 78)) w.heap.size lo hi := heap_alloc_new w _
theorem SpnAt.set {W : World} {b : Nat} {lo hi : Int} (h : SpnAt W b lo hi) (lo' hi' : Int) : SpnAt ((W.setCell ⟨b, 0, none⟩ (.int .i64 lo')).setCell ⟨b, 1, none⟩ (.int .i64 hi')) b lo' hi' := by
  unfold SpnAt
  rw [heap_setCell_same _ b _ _ _ _ (heap_setCell_same _ b _ _ _ _ h)]
  rfl
theorem SpnAt.other {W : World} {b q : Nat} {lo hi : Int} (h : SpnAt W b lo hi) (hne : b ≠ q) (j : Nat) (v : Value) : SpnAt (W.setCell ⟨q, j, none⟩ v) b lo hi := (heap_setCell_other _ _ b _ hne).trans h
theorem SpnAt.load {w : World} {p : Nat} {lo hi : Int} (h : SpnAt w p lo hi) : (loadVar 78 ⟨p, 0, none⟩).run Tryz.prog w = .ok (spnV lo hi) w := run_loadVar_row w p _ _ _ _ _ h Tryz.underlying78 rfl (by kernel_rfl)

theorem res1_13 {P : Program} {fn : Func} {p : Tmp} {t1 : TypeId} (h : fn.results = #[.cell p t1]) (tmps : Array Value) (w : World) {a : Addr} {v : Value}
    (hp : tmps.getD p undef = .pointer (some a)) (h1 : (loadVar t1 a).run P w = .ok v w) : (results fn tmps).run P w = .ok v w := by
  have hp' : tmps[p]?.getD undef = .pointer (some a) := by simpa using hp
  simp [results, h, hp', asAddr, h1, Result.andThen, Sem.run_bind]

set_option maxRecDepth 100000 in
theorem Right_any13 (lo hi : Int) (w : World) : Calls Tryz.prog 78 #[spnV lo hi] w fun e w' => e = .returned (.bool (rB13 lo hi)) ∧ Below w.heap.size w w' := by
  obtain ⟨r, hr⟩ : ∃ r, rB13 lo hi = r := ⟨_, rfl⟩
  rw [hr]
  unfold rB13 at hr
  by_cases h0 : 0 ≤ lo
  · have d0 : decide (0 ≤ lo) = true := by simpa using h0
    rw [d0, Bool.true_and] at hr
    by_cases h1 : lo ≤ hi
    · have d1 : decide (lo ≤ hi) = true := by simpa using h1
      rw [d1, Bool.true_and] at hr
      go_enter Tryz.func78, Tryz.ntmps78
      go_wp2
      go_ret
      exact ⟨rfl, (Below.refl _ _).alloc (Nat.le_refl _) _⟩
    · have d1 : decide (lo ≤ hi) = false := by simpa using h1
      rw [d1, Bool.false_and] at hr
      subst hr
      go_enter Tryz.func78, Tryz.ntmps78
      go_wp2
      go_ret
      exact ⟨rfl, (Below.refl _ _).alloc (Nat.le_refl _) _⟩
  · have d0 : decide (0 ≤ lo) = false := by simpa using h0
    rw [d0, Bool.false_and, Bool.false_and] at hr
    subst hr
    go_enter Tryz.func78, Tryz.ntmps78
    go_wp2
    go_ret
    exact ⟨rfl, (Below.refl _ _).alloc (Nat.le_refl _) _⟩

set_option maxRecDepth 100000 in
theorem Has_any13 (lo hi k : Int) (w : World) : Calls Tryz.prog 79 #[spnV lo hi, .int .i64 k] w fun e w' => e = .returned (.bool (hB13 lo hi k)) ∧ Below w.heap.size w w' := by
  obtain ⟨r, hr⟩ : ∃ r, hB13 lo hi k = r := ⟨_, rfl⟩
  rw [hr]
  unfold hB13 at hr
  by_cases h0 : lo ≤ k
  · have d0 : decide (lo ≤ k) = true := by simpa using h0
    rw [d0, Bool.true_and] at hr
    go_enter Tryz.func79, Tryz.ntmps79
    go_wp2
    go_ret
    exact ⟨rfl, (Below.refl _ _).alloc (Nat.le_refl _) _⟩
  · have d0 : decide (lo ≤ k) = false := by simpa using h0
    rw [d0, Bool.false_and] at hr
    subst hr
    go_enter Tryz.func79, Tryz.ntmps79
    go_wp2
    go_ret
    exact ⟨rfl, (Below.refl _ _).alloc (Nat.le_refl _) _⟩

set_option maxRecDepth 100000 in
theorem All_any13 (w : World) : Calls Tryz.prog 35 #[] w fun e w' => e = .returned (spnV 0 281474976710656) ∧ Below w.heap.size w w' := by
  go_enter Tryz.func35, Tryz.ntmps35
  go_wp2
  refine bodyPost_ret (res1_13 Tryz.results35 _ _ rfl (SpnAt.new w 0 281474976710656).load) rfl ?_
  exact ⟨rfl, (Below.refl w.heap.size w).alloc (Nat.le_refl _) _⟩

end Go.Proofs.YtnjlganofjkpfaaGreat

/-
  Layer 14's mathematics: a scan as a relation between what was found, the visits that wait, and the end.
-/
namespace Go.Proofs.YtnjlganofjkpfaaGreat
open Go.RowKit
set_option linter.unusedVariables false
set_option linter.unusedSimpArgs false

/-- a visit that waits: of a node, or (flt not 0) a fault that comes in its turn -/
structure Vis14 where
  no : Int
  lo : Int
  hi : Int
  way : List Int
  flt : Int
/-- what was found: entries (key, value, block), blocks, depth, how many were looked at, faults (blocks, code) -/
structure Wlk14 where
  ents : List (Int × List UInt8 × Int)
  blks : List Int
  deep : Int
  looked : Int
  flts : List (List Int × Int)
def Wlk14.zero : Wlk14 := ⟨[], [], 0, 0, []⟩
def Vis14.root (no : Int) : Vis14 := ⟨no, 0, 281474976710656, [], 0⟩
def Wlk14.bad (w : Wlk14) (v : Vis14) (c : Int) : Wlk14 := ⟨w.ents, w.blks, w.deep, w.looked, w.flts ++ [(v.way ++ [v.no], c)]⟩
def Wlk14.see (w : Wlk14) : Wlk14 := ⟨w.ents, w.blks, w.deep, w.looked + 1, w.flts⟩
def Wlk14.inner (w : Wlk14) (v : Vis14) : Wlk14 := ⟨w.ents, w.blks ++ [v.no], w.deep, w.looked, w.flts⟩
/-- a leaf's entries -/
def ents14 (n : Nod) (no : Int) : List (Int × List UInt8 × Int) := (List.range n.keys.length).map fun i => (n.keys.getD i 0, n.vals.getD i [], no)
def Wlk14.leaf (w : Wlk14) (v : Vis14) (n : Nod) : Wlk14 := ⟨w.ents ++ ents14 n v.no, w.blks ++ [v.no], v.way.length + 1, w.looked, w.flts⟩

section
variable (nd : Int → Int × Nod) (rt : List UInt8 → Int × Int)

/-- what is wrong with a node where it stands -/
def lookE14 (deep : Int) (v : Vis14) : Int :=
  if v.no ∈ v.way then 11 else if 16 < v.way.length + 1 then 10 else if (nd v.no).1 ≠ 0 then (nd v.no).1
  else if ins13 v.lo v.hi (nd v.no).2.keys = false then 9 else if (nd v.no).2.leaf = true ∧ deep ≠ 0 ∧ ((v.way.length : Nat) : Int) + 1 ≠ deep then 10 else 0
/-- child i of a node -/
def kid14 (v : Vis14) (n : Nod) (i : Nat) : Vis14 :=
  if (rt (n.vals.getD i [])).2 ≠ 0 then ⟨v.no, 0, 0, v.way, (rt (n.vals.getD i [])).2⟩
  else ⟨(rt (n.vals.getD i [])).1, (ch13 v.lo v.hi n.keys (i : Int)).1, (ch13 v.lo v.hi n.keys (i : Int)).2, v.way ++ [v.no], 0⟩
def kids14 (v : Vis14) (n : Nod) : List Vis14 := (List.range n.keys.length).map (kid14 rt v n)

/-- from what was found and the visits that wait, the scan ends with R -/
inductive Done14 (fuel : Int) : Wlk14 → List Vis14 → Wlk14 → Prop
  | nil (w) : Done14 fuel w [] w
  | flt (w v rest R) : v.flt ≠ 0 → Done14 fuel (w.bad v v.flt) rest R → Done14 fuel w (v :: rest) R
  | dry (w v rest) : v.flt = 0 → fuel ≤ w.looked → Done14 fuel w (v :: rest) (w.bad v 12)
  | bad (w v rest R) : v.flt = 0 → w.looked < fuel → lookE14 nd w.deep v ≠ 0 → Done14 fuel (w.see.bad v (lookE14 nd w.deep v)) rest R → Done14 fuel w (v :: rest) R
  | leaf (w v rest R) : v.flt = 0 → w.looked < fuel → lookE14 nd w.deep v = 0 → (nd v.no).2.leaf = true → Done14 fuel (w.see.leaf v (nd v.no).2) rest R → Done14 fuel w (v :: rest) R
  | node (w v rest R) : v.flt = 0 → w.looked < fuel → lookE14 nd w.deep v = 0 → (nd v.no).2.leaf = false → Done14 fuel (w.see.inner v) (kids14 rt v (nd v.no).2 ++ rest) R → Done14 fuel w (v :: rest) R

variable {nd rt}

/-- there is one end -/
theorem Done14.one {fuel : Int} {w : Wlk14} {l : List Vis14} {R R2 : Wlk14} (h : Done14 nd rt fuel w l R) (h2 : Done14 nd rt fuel w l R2) : R = R2 := by
  induction h with
  | nil w => cases h2; rfl
  | flt w v rest R a _ ih =>
    cases h2 with
    | flt _ _ _ _ _ k => exact ih k
    | dry _ _ _ b _ => exact absurd b a
    | bad _ _ _ _ b _ _ _ => exact absurd b a
    | leaf _ _ _ _ b _ _ _ _ => exact absurd b a
    | node _ _ _ _ b _ _ _ _ => exact absurd b a
  | dry w v rest a b =>
    cases h2 with
    | flt _ _ _ _ c _ => exact absurd a c
    | dry => rfl
    | bad _ _ _ _ _ c _ _ => omega
    | leaf _ _ _ _ _ c _ _ _ => omega
    | node _ _ _ _ _ c _ _ _ => omega
  | bad w v rest R a b c _ ih =>
    cases h2 with
    | flt _ _ _ _ d _ => exact absurd a d
    | dry _ _ _ _ d => omega
    | bad _ _ _ _ _ _ _ k => exact ih k
    | leaf _ _ _ _ _ _ d _ _ => exact absurd d c
    | node _ _ _ _ _ _ d _ _ => exact absurd d c
  | leaf w v rest R a b c d _ ih =>
    cases h2 with
    | flt _ _ _ _ e _ => exact absurd a e
    | dry _ _ _ _ e => omega
    | bad _ _ _ _ _ _ e _ => exact absurd c e
    | leaf _ _ _ _ _ _ _ _ k => exact ih k
    | node _ _ _ _ _ _ _ e _ => rw [d] at e; cases e
  | node w v rest R a b c d _ ih =>
    cases h2 with
    | flt _ _ _ _ e _ => exact absurd a e
    | dry _ _ _ _ e => omega
    | bad _ _ _ _ _ _ e _ => exact absurd c e
    | leaf _ _ _ _ _ _ _ e _ => rw [d] at e; cases e
    | node _ _ _ _ _ _ _ _ k => exact ih k

/-- one more than was looked at before each that waits, at most so often -/
theorem Done14.looked {fuel : Int} {w : Wlk14} {l : List Vis14} {R : Wlk14} (h : Done14 nd rt fuel w l R) : w.looked ≤ R.looked ∧ (w.looked ≤ max fuel 0 → R.looked ≤ max fuel 0) ∧ ((w.blks.length : Int) ≤ w.looked → (R.blks.length : Int) ≤ R.looked) := by
  induction h with
  | nil w => exact ⟨Int.le_refl _, id, id⟩
  | flt w v rest R a _ ih => exact ih
  | dry w v rest a b => exact ⟨Int.le_refl _, id, id⟩
  | bad w v rest R a b c _ ih =>
    simp only [Wlk14.bad, Wlk14.see] at ih
    exact ⟨by omega, fun _ => ih.2.1 (by omega), fun h => ih.2.2 (by omega)⟩
  | leaf w v rest R a b c d _ ih =>
    simp only [Wlk14.leaf, Wlk14.see, List.length_append, List.length_singleton] at ih
    exact ⟨by omega, fun _ => ih.2.1 (by omega), fun h => ih.2.2 (by omega)⟩
  | node w v rest R a b c d _ ih =>
    simp only [Wlk14.inner, Wlk14.see, List.length_append, List.length_singleton] at ih
    exact ⟨by omega, fun _ => ih.2.1 (by omega), fun h => ih.2.2 (by omega)⟩

/-- the visits that wait: their spans are valid, and rise from b on -/
def Asc14 (b : Int) : List Vis14 → Prop
  | [] => True
  | v :: r => (v.flt = 0 → b ≤ v.lo ∧ v.lo ≤ v.hi ∧ rB13 v.lo v.hi = true) ∧ Asc14 (if v.flt = 0 then v.hi else b) r
theorem Asc14.mono {b b' : Int} (hb : b' ≤ b) : ∀ {l : List Vis14}, Asc14 b l → Asc14 b' l
  | [], _ => trivial
  | v :: r, h => by
    refine ⟨fun e => ⟨Int.le_trans hb (h.1 e).1, (h.1 e).2⟩, ?_⟩
    have := h.2
    by_cases e : v.flt = 0
    · rw [if_pos e] at this ⊢; exact this
    · rw [if_neg e] at this ⊢; exact this.mono hb
/-- entries that rise, all below b -/
def Ris14 (b : Int) (es : List (Int × List UInt8 × Int)) : Prop := (∀ x ∈ es, x.1 < b) ∧ es.Pairwise (fun x y => x.1 < y.1)
theorem Ris14.mono {b b' : Int} {es : List (Int × List UInt8 × Int)} (h : Ris14 b es) (hb : b ≤ b') : Ris14 b' es := ⟨fun x hx => Int.lt_of_lt_of_le (h.1 x hx) hb, h.2⟩

/-- what is known of a node that is read -/
structure NdOk14 (nd : Int → Int × Nod) : Prop where
  ord : ∀ no, (nd no).1 = 0 → ord13 (nd no).2.keys = true
  len : ∀ no, (nd no).1 = 0 → (nd no).2.vals.length = (nd no).2.keys.length

theorem lookE14_zero {nd : Int → Int × Nod} {deep : Int} {v : Vis14} (h : lookE14 nd deep v = 0) : v.no ∉ v.way ∧ v.way.length + 1 ≤ 16 ∧ (nd v.no).1 = 0 ∧ ins13 v.lo v.hi (nd v.no).2.keys = true ∧ ((nd v.no).2.leaf = true → deep = 0 ∨ ((v.way.length : Nat) : Int) + 1 = deep) := by
  unfold lookE14 at h
  split at h
  · cases h
  · rename_i h1
    split at h
    · cases h
    · rename_i h2
      split at h
      · rename_i h3
        exact absurd h h3
      · rename_i h3
        split at h
        · cases h
        · rename_i h4
          split at h
          · cases h
          · rename_i h5
            refine ⟨h1, by omega, by omega, by simpa using h4, fun e => ?_⟩
            by_cases hd : deep = 0
            · exact .inl hd
            · right
              by_cases hx : ((v.way.length : Nat) : Int) + 1 = deep
              · exact hx
              · exact absurd ⟨e, hd, hx⟩ h5

end

end Go.Proofs.YtnjlganofjkpfaaGreat

/-
  Layer 17's mathematics: a packed subtree, and that a scan finds it whole.
-/
namespace Go.Proofs.YtnjlganofjkpfaaGreat
open Go.RowKit
set_option linter.unusedVariables false
set_option linter.unusedSimpArgs false

/-- an entry as a scan finds it: key, value, the leaf's block -/
abbrev Ent17 := Int × List UInt8 × Int
/-- a child: the block of its root, its entries, its blocks in the order in which a scan sees them -/
structure Kid17 where
  no : Int
  es : List Ent17
  bl : List Int
/-- the entries rise -/
def Up17 (es : List Ent17) : Prop := es.Pairwise fun a b => a.1 < b.1

section
variable (nd : Int → Int × Nod) (rt : List UInt8 → Int × Int)
/-- a packed subtree: of a height, its root in a block, these entries, these blocks -/
def Sub17 : Nat → Int → List Ent17 → List Int → Prop
  | 0, _, _, _ => False
  | 1, no, es, bl => (nd no).1 = 0 ∧ (nd no).2.leaf = true ∧ es = ents14 (nd no).2 no ∧ bl = [no]
  | h + 2, no, es, bl => ∃ cs : List Kid17, (nd no).1 = 0 ∧ (nd no).2.leaf = false ∧ cs ≠ [] ∧ (nd no).2.keys = cs.map (fun c => (c.es.headD (0, [], 0)).1) ∧ (nd no).2.vals.map rt = cs.map (fun c => (c.no, 0)) ∧
      (∀ c ∈ cs, Sub17 (h + 1) c.no c.es c.bl ∧ c.no < no ∧ c.es ≠ []) ∧ es = cs.flatMap Kid17.es ∧ bl = no :: cs.flatMap Kid17.bl
variable {nd rt}

/-- it speaks of its blocks alone -/
theorem Sub17.congr {nd2 : Int → Int × Nod} : ∀ {h : Nat} {no : Int} {es : List Ent17} {bl : List Int}, Sub17 nd rt h no es bl → (∀ b ∈ bl, nd2 b = nd b) → Sub17 nd2 rt h no es bl
  | 0, _, _, _, h, _ => h.elim
  | 1, no, es, bl, h, hb => by
    obtain ⟨h1, h2, h3, h4⟩ := h
    have e := hb no (by rw [h4]; simp)
    exact ⟨by rw [e]; exact h1, by rw [e]; exact h2, by rw [e]; exact h3, h4⟩
  | h + 2, no, es, bl, hs, hb => by
    obtain ⟨cs, h1, h2, h3, h4, h5, h6, h7, h8⟩ := hs
    have e := hb no (by rw [h8]; simp)
    refine ⟨cs, by rw [e]; exact h1, by rw [e]; exact h2, h3, by rw [e]; exact h4, by rw [e]; exact h5, fun c hc => ?_, h7, h8⟩
    obtain ⟨a, b, d⟩ := h6 c hc
    refine ⟨Sub17.congr a fun x hx => hb x ?_, b, d⟩
    rw [h8]
    exact List.mem_cons_of_mem _ (List.mem_flatMap.2 ⟨c, hc, hx⟩)
theorem Sub17.pos {h : Nat} {no : Int} {es : List Ent17} {bl : List Int} (hs : Sub17 nd rt h no es bl) : 1 ≤ h := by
  cases h with
  | zero => exact hs.elim
  | succ h => omega

/-- what a scan of it asks, and what it leaves -/
def Ok17 (v : Vis14) (h : Nat) (w : Wlk14) (fuel : Int) (es : List Ent17) (bl : List Int) : Prop :=
  v.flt = 0 ∧ v.way.length + h ≤ 16 ∧ (∀ x ∈ v.way, v.no < x) ∧ rB13 v.lo v.hi = true ∧ (∀ e ∈ es, v.lo ≤ e.1 ∧ e.1 < v.hi) ∧ Up17 es ∧
    (w.deep = 0 ∨ w.deep = ((v.way.length + h : Nat) : Int)) ∧ w.looked + (bl.length : Int) ≤ fuel
def Wlk14.more17 (w : Wlk14) (es : List Ent17) (bl : List Int) (deep : Int) : Wlk14 := ⟨w.ents ++ es, w.blks ++ bl, deep, w.looked + (bl.length : Int), w.flts⟩

/-- a visit of a child -/
structure Z17 where
  c : Kid17
  lo : Int
  hi : Int
def Z17.vis (way : List Int) (z : Z17) : Vis14 := ⟨z.c.no, z.lo, z.hi, way, 0⟩

/-- a row of children -/
theorem kids_scan17 {fuel : Int} {h : Nat} (hh : 1 ≤ h)
    (IH : ∀ (no : Int) es bl, Sub17 nd rt h no es bl → ∀ (w : Wlk14) (v : Vis14) rest R, v.no = no → Ok17 v h w fuel es bl → Done14 nd rt fuel (w.more17 es bl ((v.way.length + h : Nat) : Int)) rest R → Done14 nd rt fuel w (v :: rest) R)
    (way : List Int) (hw : way.length + h ≤ 16) : ∀ (zs : List Z17) (w : Wlk14) rest R, zs ≠ [] →
    (∀ z ∈ zs, Sub17 nd rt h z.c.no z.c.es z.c.bl ∧ (∀ x ∈ way, z.c.no < x) ∧ rB13 z.lo z.hi = true ∧ (∀ e ∈ z.c.es, z.lo ≤ e.1 ∧ e.1 < z.hi) ∧ Up17 z.c.es) →
    (w.deep = 0 ∨ w.deep = ((way.length + h : Nat) : Int)) → w.looked + ((zs.flatMap fun z => z.c.bl).length : Int) ≤ fuel →
    Done14 nd rt fuel (w.more17 (zs.flatMap fun z => z.c.es) (zs.flatMap fun z => z.c.bl) ((way.length + h : Nat) : Int)) rest R → Done14 nd rt fuel w (zs.map (Z17.vis way) ++ rest) R
  | [], w, rest, R, hne, _, _, _, _ => absurd rfl hne
  | z :: zs, w, rest, R, _, hz, hd, hf, hD => by
    obtain ⟨a1, a2, a3, a4, a5⟩ := hz z (List.mem_cons_self ..)
    have hlen : ((List.flatMap (fun z : Z17 => z.c.bl) (z :: zs)).length : Int) = (z.c.bl.length : Int) + ((zs.flatMap fun z => z.c.bl).length : Int) := by
      rw [List.flatMap_cons, List.length_append]; omega
    refine IH z.c.no z.c.es z.c.bl a1 w (z.vis way) (zs.map (Z17.vis way) ++ rest) R rfl ⟨rfl, hw, a2, a3, a4, a5, hd, by omega⟩ ?_
    show Done14 nd rt fuel (w.more17 z.c.es z.c.bl ((way.length + h : Nat) : Int)) (zs.map (Z17.vis way) ++ rest) R
    cases zs with
    | nil =>
      simp only [List.flatMap_cons, List.flatMap_nil, List.append_nil] at hD
      exact hD
    | cons z2 zs =>
      refine kids_scan17 hh IH way hw (z2 :: zs) _ rest R (by simp) (fun y hy => hz y (List.mem_cons_of_mem _ hy)) (.inr rfl) ?_ ?_
      · simp only [Wlk14.more17]; omega
      · have e : (w.more17 z.c.es z.c.bl ((way.length + h : Nat) : Int)).more17 (List.flatMap (fun z => z.c.es) (z2 :: zs)) (List.flatMap (fun z => z.c.bl) (z2 :: zs)) ((way.length + h : Nat) : Int) = w.more17 (List.flatMap (fun z => z.c.es) (z :: z2 :: zs)) (List.flatMap (fun z => z.c.bl) (z :: z2 :: zs)) ((way.length + h : Nat) : Int) := by
          simp only [Wlk14.more17, List.flatMap_cons, List.append_assoc, List.length_append]
          congr 1
          omega
        rw [e]
        exact hD

theorem ents14_key {n : Nod} {no : Int} {j : Nat} (hj : j < n.keys.length) : ∃ e ∈ ents14 n no, e.1 = n.keys.getD j 0 :=
  ⟨_, List.mem_map.2 ⟨j, List.mem_range.2 hj, rfl⟩, rfl⟩
theorem head17_mem {es : List Ent17} (h : es ≠ []) : es.headD (0, [], 0) ∈ es := by
  cases es with
  | nil => exact absurd rfl h
  | cons x r => simp
theorem head17_le {es : List Ent17} (h : Up17 es) {e : Ent17} (he : e ∈ es) : (es.headD (0, [], 0)).1 ≤ e.1 := by
  cases es with
  | nil => cases he
  | cons x r =>
    simp only [List.headD_cons]
    rcases List.mem_cons.1 he with rfl | he
    · exact Int.le_refl _
    · exact Int.le_of_lt ((List.pairwise_cons.1 h).1 e he)

/-- a scan finds a packed subtree whole -/
theorem Sub17.scan {fuel : Int} : ∀ (h : Nat) (no : Int) es bl, Sub17 nd rt h no es bl → ∀ (w : Wlk14) (v : Vis14) rest R, v.no = no → Ok17 v h w fuel es bl →
    Done14 nd rt fuel (w.more17 es bl ((v.way.length + h : Nat) : Int)) rest R → Done14 nd rt fuel w (v :: rest) R
  | 0, _, _, _, hs, _, _, _, _, _, _, _ => hs.elim
  | 1, no, es, bl, hs, w, v, rest, R, hv, ⟨o1, o2, o3, o4, o5, o6, o7, o8⟩, hD => by
    obtain ⟨h1, h2, h3, h4⟩ := hs
    subst hv
    subst h4
    have hins : ins13 v.lo v.hi (nd v.no).2.keys = true := ins13_yes.2 fun j hj => by
      obtain ⟨e, he, e1⟩ := ents14_key (n := (nd v.no).2) (no := v.no) hj
      rw [← e1]
      exact hB13_yes.2 (o5 e (by rw [h3]; exact he))
    have hlook : lookE14 nd w.deep v = 0 := by
      unfold lookE14
      rw [if_neg (fun hm => by have := o3 _ hm; omega), if_neg (by omega), if_neg (by omega), if_neg (by rw [hins]; decide), if_neg]
      rintro ⟨_, hd, hne⟩
      rcases o7 with h | h
      · exact hd h
      · rw [h] at hne; exact hne (by push_cast; rfl)
    refine .leaf _ _ _ _ o1 (by simp only [List.length_singleton] at o8; omega) hlook h2 ?_
    have e : w.see.leaf v (nd v.no).2 = w.more17 es [v.no] ((v.way.length + 1 : Nat) : Int) := by
      simp only [Wlk14.leaf, Wlk14.see, Wlk14.more17, h3, List.length_singleton]
      push_cast
      rfl
    rw [e]
    exact hD
  | h + 2, no, es, bl, hs, w, v, rest, R, hv, ⟨o1, o2, o3, o4, o5, o6, o7, o8⟩, hD => by
    obtain ⟨cs, h1, h2, h3, hk, hvals, h6, h7, h8⟩ := hs
    subst hv
    obtain ⟨n, hn⟩ : ∃ n, (nd v.no).2 = n := ⟨_, rfl⟩
    rw [hn] at h2 hk hvals
    have hkl : n.keys.length = cs.length := by rw [hk, List.length_map]
    have hvl : n.vals.length = cs.length := by have := congrArg List.length hvals; simpa using this
    have hkey : ∀ (j : Nat) (hj : j < cs.length), n.keys.getD j 0 = ((cs[j]).es.headD (0, [], 0)).1 := fun j hj => by
      rw [hk]
      simp [List.getD_eq_getElem?_getD, hj]
    have hmem : ∀ (j : Nat) (hj : j < cs.length), ∀ e ∈ (cs[j]).es, e ∈ es := fun j hj e he => by
      rw [h7]
      exact List.mem_flatMap.2 ⟨cs[j], List.getElem_mem hj, he⟩
    have hup := o6
    rw [Up17, h7, List.pairwise_flatMap] at hup
    have hcross : ∀ (i j : Nat) (hi : i < cs.length) (hj : j < cs.length), i < j → ∀ x ∈ (cs[i]).es, ∀ y ∈ (cs[j]).es, x.1 < y.1 := fun i j hi hj hij => (List.pairwise_iff_getElem.1 hup.2) i j hi hj hij
    have hhead : ∀ (j : Nat) (hj : j < cs.length), (cs[j]).es.headD (0, [], 0) ∈ (cs[j]).es := fun j hj => head17_mem (h6 _ (List.getElem_mem hj)).2.2
    have hins : ins13 v.lo v.hi n.keys = true := ins13_yes.2 fun j hj => by
      rw [hkl] at hj
      rw [hkey j hj]
      exact hB13_yes.2 (o5 _ (hmem j hj _ (hhead j hj)))
    have hord : ord13 n.keys = true := ord13_yes.2 fun j hj => by
      rw [hkl] at hj
      rw [hkey j (by omega), hkey (j + 1) hj]
      exact hcross j (j + 1) (by omega) hj (by omega) _ (hhead j (by omega)) _ (hhead (j + 1) hj)
    have hfit := fit13_ok o4 hord hins
    have hlook : lookE14 nd w.deep v = 0 := by
      unfold lookE14
      rw [hn, if_neg (fun hm => by have := o3 _ hm; omega), if_neg (by omega), if_neg (by omega), if_neg (by rw [hins]; decide), if_neg (by rw [h2]; rintro ⟨a, _⟩; cases a)]
    obtain ⟨zs, hzs⟩ : ∃ zs : List Z17, zs = (List.range cs.length).map fun i => ⟨cs.getD i ⟨0, [], []⟩, (chd13 v.hi n.keys i).1, (chd13 v.hi n.keys i).2⟩ := ⟨_, rfl⟩
    have hzc : zs.map Z17.c = cs := by
      rw [hzs]
      apply List.ext_getElem
      · simp
      · intro i a b
        simp [List.getD_eq_getElem?_getD, b]
    have hkids : kids14 rt v n = zs.map (Z17.vis (v.way ++ [v.no])) := by
      rw [kids14, hzs, hkl, List.map_map]
      refine List.map_congr_left fun i hi => ?_
      have hi := List.mem_range.1 hi
      have hr : rt (n.vals.getD i []) = ((cs[i]).no, 0) := by
        have e := congrArg (fun l => l[i]?) hvals
        simp only [List.getElem?_map] at e
        rw [List.getElem?_eq_getElem (by omega), List.getElem?_eq_getElem hi] at e
        simpa [List.getD_eq_getElem?_getD, List.getElem?_eq_getElem (show i < n.vals.length by omega)] using e
      unfold kid14
      rw [hr, if_neg (by simp)]
      simp only [Function.comp, Z17.vis, (chE13_in hfit (show i < n.keys.length by omega)).2, List.getD_eq_getElem?_getD, List.getElem?_eq_getElem hi, Option.getD_some]
    have hes : (zs.flatMap fun z => z.c.es) = es := by
      rw [h7, ← hzc, List.flatMap_map]
    have hbl : v.no :: (zs.flatMap fun z => z.c.bl) = bl := by
      rw [h8, ← hzc, List.flatMap_map]
    refine .node _ _ _ _ o1 (by rw [← hbl] at o8; simp only [List.length_cons] at o8; omega) hlook (by rw [hn]; exact h2) ?_
    rw [hn, hkids]
    have hlen : (v.way ++ [v.no]).length + (h + 1) = v.way.length + (h + 2) := by simp; omega
    refine kids_scan17 (by omega) (Sub17.scan (h + 1)) (v.way ++ [v.no]) (by omega) zs (w.see.inner v) rest R (fun e => h3 (by rw [← hzc, e]; rfl)) (fun z hz => ?_) ?_ ?_ ?_
    · rw [hzs] at hz
      obtain ⟨i, hi, rfl⟩ := List.mem_map.1 hz
      have hi := List.mem_range.1 hi
      have hg : cs.getD i ⟨0, [], []⟩ = cs[i] := by simp [List.getD_eq_getElem?_getD, hi]
      obtain ⟨s1, s2, s3⟩ := h6 _ (List.getElem_mem hi)
      obtain ⟨e1, e2, e3, e4, e5⟩ := end13_in hfit (show i < n.keys.length by omega)
      simp only [hg, chd13]
      refine ⟨s1, fun x hx => ?_, rB13_yes.2 ⟨by omega, by omega, by omega⟩, fun e he => ⟨?_, ?_⟩, hup.1 _ (List.getElem_mem hi)⟩
      · rcases List.mem_append.1 hx with hx | hx
        · have := o3 x hx; omega
        · rw [List.mem_singleton.1 hx]; exact s2
      · rw [hkey i hi]
        exact head17_le (hup.1 _ (List.getElem_mem hi)) he
      · by_cases hnx : i + 1 < cs.length
        · rw [end13_next (by omega), hkey (i + 1) hnx]
          exact hcross i (i + 1) hi hnx (by omega) e he _ (hhead (i + 1) hnx)
        · rw [end13_last (by omega)]
          exact (o5 e (hmem i hi e he)).2
    · show w.deep = 0 ∨ w.deep = _
      rw [hlen]
      exact o7
    · rw [← hbl] at o8
      simp only [List.length_cons] at o8
      simp only [Wlk14.inner, Wlk14.see]
      omega
    · rw [hes, hlen]
      have e : (w.see.inner v).more17 es (zs.flatMap fun z => z.c.bl) ((v.way.length + (h + 2) : Nat) : Int) = w.more17 es bl ((v.way.length + (h + 2) : Nat) : Int) := by
        rw [← hbl]
        simp only [Wlk14.more17, Wlk14.inner, Wlk14.see, List.append_assoc, List.length_cons, List.singleton_append]
        congr 1
        omega
      rw [e]
      exact hD

/-- from its root a scan finds it, and nothing else -/
theorem Sub17.whole {fuel : Int} {h : Nat} {no : Int} {es : List Ent17} {bl : List Int} (hs : Sub17 nd rt h no es bl) (hh : h ≤ 16) (hu : Up17 es) (hk : ∀ e ∈ es, 0 ≤ e.1 ∧ e.1 < 281474976710656) (hf : (bl.length : Int) ≤ fuel) :
    Done14 nd rt fuel Wlk14.zero [Vis14.root no] ⟨es, bl, (h : Int), (bl.length : Int), []⟩ := by
  refine Sub17.scan h no es bl hs Wlk14.zero (Vis14.root no) [] _ rfl ⟨rfl, by simpa [Vis14.root] using hh, fun x hx => (by cases hx), (show rB13 0 281474976710656 = true by decide), hk, hu, .inl rfl, by simpa [Wlk14.zero] using hf⟩ ?_
  have e : Wlk14.zero.more17 es bl (((Vis14.root no).way.length + h : Nat) : Int) = ⟨es, bl, (h : Int), (bl.length : Int), []⟩ := by
    simp [Wlk14.more17, Wlk14.zero, Vis14.root]
  rw [e]
  exact .nil _
end
end Go.Proofs.YtnjlganofjkpfaaGreat

/-
  Layer 14's mathematics: a part of a scan, from what was found before to what was found behind it.
-/
namespace Go.Proofs.YtnjlganofjkpfaaGreat
open Go.RowKit
set_option linter.unusedVariables false
set_option linter.unusedSimpArgs false

/-- the visits l lead from w to w'; b: whether the scan goes on -/
structure Step14 (nd : Int → Int × Nod) (rt : List UInt8 → Int × Int) (fuel : Int) (w : Wlk14) (l : List Vis14) (w' : Wlk14) (b : Bool) : Prop where
  go : b = true → ∀ rest R, Done14 nd rt fuel w' rest R → Done14 nd rt fuel w (l ++ rest) R
  fin : b = false → ∀ rest, Done14 nd rt fuel w (l ++ rest) w'
  up : w.looked ≤ w'.looked
  top : w'.looked ≤ max w.looked fuel
  ents : (w'.ents.length : Int) + 18 * w.looked ≤ w.ents.length + 18 * w'.looked
  blks : (w'.blks.length : Int) + w.looked ≤ w.blks.length + w'.looked
  flts : (w'.flts.length : Int) + 19 * w.looked ≤ w.flts.length + l.length + 19 * w'.looked

section
variable {nd : Int → Int × Nod} {rt : List UInt8 → Int × Int} {fuel : Int} {w w1 w2 : Wlk14} {v : Vis14} {a l : List Vis14} {b : Bool}

theorem Wlk14.bad_len (w : Wlk14) (v : Vis14) (c : Int) : ((w.bad v c).flts.length : Int) = w.flts.length + 1 := by simp [Wlk14.bad]
theorem Wlk14.leaf_len (w : Wlk14) (v : Vis14) (n : Nod) : ((w.leaf v n).ents.length : Int) = w.ents.length + n.keys.length ∧ ((w.leaf v n).blks.length : Int) = w.blks.length + 1 := by
  simp [Wlk14.leaf, ents14]
theorem Wlk14.inner_len (w : Wlk14) (v : Vis14) : ((w.inner v).blks.length : Int) = w.blks.length + 1 := by simp [Wlk14.inner]

theorem Step14.nil (w : Wlk14) : Step14 nd rt fuel w [] w true :=
  ⟨fun _ _ _ h => h, fun h => (by cases h), Int.le_refl _, by omega, Int.le_refl _, Int.le_refl _, by simp⟩
theorem Step14.flt (h : v.flt ≠ 0) : Step14 nd rt fuel w [v] (w.bad v v.flt) true := by
  refine ⟨fun _ _ _ k => .flt _ _ _ _ h k, fun h => (by cases h), Int.le_refl _, ?_, Int.le_refl _, Int.le_refl _, ?_⟩
  · show w.looked ≤ _; omega
  · rw [Wlk14.bad_len]; show _ + 19 * w.looked ≤ _ + 1 + 19 * w.looked; omega
theorem Step14.dry (h : v.flt = 0) (hf : fuel ≤ w.looked) : Step14 nd rt fuel w [v] (w.bad v 12) false := by
  refine ⟨fun h => (by cases h), fun _ _ => .dry _ _ _ h hf, Int.le_refl _, ?_, Int.le_refl _, Int.le_refl _, ?_⟩
  · show w.looked ≤ _; omega
  · rw [Wlk14.bad_len]; show _ + 19 * w.looked ≤ _ + 1 + 19 * w.looked; omega
theorem Step14.bad (h : v.flt = 0) (hf : w.looked < fuel) (he : lookE14 nd w.deep v ≠ 0) : Step14 nd rt fuel w [v] (w.see.bad v (lookE14 nd w.deep v)) true := by
  refine ⟨fun _ _ _ k => .bad _ _ _ _ h hf he k, fun h => (by cases h), ?_, ?_, ?_, ?_, ?_⟩
  · show w.looked ≤ w.looked + 1; omega
  · show w.looked + 1 ≤ _; omega
  · show (w.ents.length : Int) + _ ≤ _ + 18 * (w.looked + 1); omega
  · show (w.blks.length : Int) + _ ≤ _ + (w.looked + 1); omega
  · rw [Wlk14.bad_len]; show (w.flts.length : Int) + 1 + 19 * w.looked ≤ _ + 1 + 19 * (w.looked + 1); omega
theorem Step14.leaf (h : v.flt = 0) (hf : w.looked < fuel) (he : lookE14 nd w.deep v = 0) (hl : (nd v.no).2.leaf = true) (hk : (nd v.no).2.keys.length ≤ 18) : Step14 nd rt fuel w [v] (w.see.leaf v (nd v.no).2) true := by
  obtain ⟨h1, h2⟩ := Wlk14.leaf_len w.see v (nd v.no).2
  refine ⟨fun _ _ _ k => .leaf _ _ _ _ h hf he hl k, fun h => (by cases h), ?_, ?_, ?_, ?_, ?_⟩
  · show w.looked ≤ w.looked + 1; omega
  · show w.looked + 1 ≤ _; omega
  · rw [h1]; show (w.ents.length : Int) + _ + _ ≤ _ + 18 * (w.looked + 1); omega
  · rw [h2]; show (w.blks.length : Int) + 1 + _ ≤ _ + (w.looked + 1); omega
  · show (w.flts.length : Int) + 19 * w.looked ≤ _ + 1 + 19 * (w.looked + 1); omega
theorem kids14_length (rt : List UInt8 → Int × Int) (v : Vis14) (n : Nod) : (kids14 rt v n).length = n.keys.length := by simp [kids14]
theorem Step14.node (h : v.flt = 0) (hf : w.looked < fuel) (he : lookE14 nd w.deep v = 0) (hl : (nd v.no).2.leaf = false) (hk : (nd v.no).2.keys.length ≤ 18) (hs : Step14 nd rt fuel (w.see.inner v) (kids14 rt v (nd v.no).2) w1 b) : Step14 nd rt fuel w [v] w1 b := by
  obtain ⟨h1, h2, h3, h4, h5, h6, h7⟩ := hs
  have e1 : (w.see.inner v).looked = w.looked + 1 := rfl
  have e2 : (w.see.inner v).ents = w.ents := rfl
  have e3 : (w.see.inner v).flts = w.flts := rfl
  have e4 := Wlk14.inner_len w.see v
  have e5 : w.see.blks = w.blks := rfl
  rw [e5] at e4
  rw [kids14_length] at h7
  rw [e1] at h3 h4 h5 h6 h7
  rw [e2] at h5
  rw [e3] at h7
  rw [e4] at h6
  refine ⟨fun e rest R k => .node _ _ _ _ h hf he hl (h1 e rest R k), fun e rest => .node _ _ _ _ h hf he hl (h2 e rest), ?_, ?_, ?_, ?_, ?_⟩
  · omega
  · omega
  · omega
  · omega
  · show (w1.flts.length : Int) + _ ≤ _ + 1 + _; omega
theorem Step14.trans {c : Bool} (h : Step14 nd rt fuel w a w1 true) (k : Step14 nd rt fuel w1 l w2 c) : Step14 nd rt fuel w (a ++ l) w2 c := by
  obtain ⟨h1, h2, h3, h4, h5, h6, h7⟩ := h
  obtain ⟨k1, k2, k3, k4, k5, k6, k7⟩ := k
  refine ⟨fun e rest R d => ?_, fun e rest => ?_, ?_, ?_, ?_, ?_, ?_⟩
  · rw [List.append_assoc]; exact h1 rfl _ _ (k1 e _ _ d)
  · rw [List.append_assoc]; exact h1 rfl _ _ (k2 e _)
  · omega
  · omega
  · omega
  · omega
  · rw [List.length_append]; omega
theorem Step14.stop (h : Step14 nd rt fuel w a w1 false) (l : List Vis14) : Step14 nd rt fuel w (a ++ l) w1 false := by
  obtain ⟨h1, h2, h3, h4, h5, h6, h7⟩ := h
  refine ⟨fun e => (by cases e), fun e rest => ?_, h3, h4, h5, h6, ?_⟩
  · rw [List.append_assoc]; exact h2 rfl _
  · rw [List.length_append]; omega
theorem Step14.done (h : Step14 nd rt fuel w a w1 b) : Done14 nd rt fuel w a w1 := by
  cases b with
  | true => have := h.go rfl [] w1 (.nil w1); rwa [List.append_nil] at this
  | false => have := h.fin rfl []; rwa [List.append_nil] at this
end

/-- how much was found, at a depth of d blocks -/
structure Fit14 (fuel : Int) (w : Wlk14) (d : Nat) : Prop where
  low : 0 ≤ w.looked
  few : w.looked ≤ 1000
  cap : fuel ≤ 1000
  ents : (w.ents.length : Int) ≤ 18 * w.looked
  blks : (w.blks.length : Int) ≤ w.looked
  flts : (w.flts.length : Int) ≤ 19 * w.looked + 19 * d
theorem Fit14.zero {fuel : Int} (h : fuel ≤ 1000) : Fit14 fuel Wlk14.zero 0 := ⟨Int.le_refl _, by show (0 : Int) ≤ 1000; omega, h, Int.le_refl _, Int.le_refl _, Int.le_refl _⟩
theorem Fit14.step {nd : Int → Int × Nod} {rt : List UInt8 → Int × Int} {fuel : Int} {w w1 : Wlk14} {l : List Vis14} {b : Bool} {d e : Nat} (h : Fit14 fuel w d) (hs : Step14 nd rt fuel w l w1 b) (he : l.length + 19 * d ≤ 19 * e) : Fit14 fuel w1 e := by
  obtain ⟨h1, h2, h3, h4, h5, h6⟩ := h
  obtain ⟨_, _, k3, k4, k5, k6, k7⟩ := hs
  exact ⟨by omega, by omega, h3, by omega, by omega, by omega⟩

end Go.Proofs.YtnjlganofjkpfaaGreat
