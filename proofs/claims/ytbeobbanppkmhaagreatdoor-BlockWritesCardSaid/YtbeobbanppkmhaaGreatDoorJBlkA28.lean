/-
  Joined: NodB.
-/
import Derived.LoopTactic
import Derived.Test.YtbeobbanppkmhaaGreatDoorJBlkA14
import Derived.Test.YtbeobbanppkmhaaGreatDoorJBlkA22
/-
  Layer 7's nodes in memory; Right; begin.
-/
namespace Go.Proofs.YtbeobbanppkmhaaGreatDoor
open Go.RowKit
set_option linter.unusedVariables false
set_option linter.unusedSimpArgs false

/-- a node as a value -/
def nodV (nd : Nod) (A : Option Addr) (n c : Nat) (A2 : Option Addr) (n2 c2 : Nat) : Value := .agg #[.int .i64 nd.tree, .bool nd.leaf, .slice A n c, .slice A2 n2 c2]

/-- its parts in memory -/
structure NodIn (w : World) (nd : Nod) (A : Option Addr) (n c : Nat) (A2 : Option Addr) (n2 c2 : Nat) : Prop where
  keys : Ints w A n c nd.keys
  vals : Strs w A2 n2 c2 nd.vals
  tb : i64b nd.tree
  kb : ∀ k ∈ nd.keys, i64b k
  vb : ∀ v ∈ nd.vals, v.length ≤ 9223372036854775807
theorem NodIn.below {w w' : World} {nd : Nod} {A : Option Addr} {n c : Nat} {A2 : Option Addr} {n2 c2 : Nat} (h : NodIn w nd A n c A2 n2 c2) (hb : Below w.heap.size w w') : NodIn w' nd A n c A2 n2 c2 := ⟨h.keys.below hb, h.vals.below hb, h.tb, h.kb, h.vb⟩
theorem NodIn.zero (w : World) : NodIn w Nod.zero none 0 0 none 0 0 := ⟨Ints.nil w, Strs.nil w, by simp [Nod.zero, i64b], by simp [Nod.zero], by simp [Nod.zero]⟩

/-- a node in block p -/
def NodAt (w : World) (p : Nat) (tree : Int) (leaf : Bool) (s1 s2 : Value) : Prop := w.heap[p]? = some (Obj.cells #[.int .i64 tree, .bool leaf, s1, s2] 41 (0, 0))
section
variable {w : World} {p : Nat} {tree : Int} {leaf : Bool} {s1 s2 : Value}
theorem NodAt.c0 (h : NodAt w p tree leaf s1 s2) : w.cell? ⟨p, 0, none⟩ = some (.int .i64 tree) := by rw [cell_of_row w p 0 _ _ _ h]; rfl
theorem NodAt.c1 (h : NodAt w p tree leaf s1 s2) : w.cell? ⟨p, 1, none⟩ = some (.bool leaf) := by rw [cell_of_row w p 1 _ _ _ h]; rfl
theorem NodAt.c2 (h : NodAt w p tree leaf s1 s2) : w.cell? ⟨p, 2, none⟩ = some s1 := by rw [cell_of_row w p 2 _ _ _ h]; rfl
theorem NodAt.c3 (h : NodAt w p tree leaf s1 s2) : w.cell? ⟨p, 3, none⟩ = some s2 := by rw [cell_of_row w p 3 _ _ _ h]; rfl
theorem NodAt.later {w' : World} (h : NodAt w p tree leaf s1 s2) (hb : Below w.heap.size w w') : NodAt w' p tree leaf s1 s2 := (hb.block _ (block_lt h)).trans h
theorem NodAt.new (w : World) (tree : Int) (leaf : Bool) (s1 s2 : Value) : NodAt (w.alloc (.cells #[.int .i64 tree, .bool leaf, s1, s2] 41)) w.heap.size tree leaf s1 s2 := heap_alloc_new w _
end

/-! ### Right -/
/-- the first k keys and values -/
def okN (nd : Nod) (k : Nat) : Bool := (nd.vals.take k).all (fun v => v.length == widN nd.tree nd.leaf) && upFrom (-1) (nd.keys.take k)

theorem capN_pos {tree : Int} {leaf : Bool} : 0 < capN (widN tree leaf) ↔ widN tree leaf ≠ 0 := by
  rcases widN_cases tree leaf with ⟨h1, h2⟩ | ⟨h1, h2⟩ | ⟨h1, h2⟩ | ⟨h1, h2⟩ | ⟨h1, h2⟩ <;> rw [h2, h1] <;> simp

theorem rightN_parts (nd : Nod) : rightN nd = (holdsN nd.tree nd.leaf nd.keys.length && decide (nd.vals.length = nd.keys.length) && okN nd nd.keys.length) := by
  by_cases hl : nd.vals.length = nd.keys.length
  · have e1 : nd.vals.take nd.keys.length = nd.vals := List.take_of_length_le (by omega)
    have e2 : nd.keys.take nd.keys.length = nd.keys := List.take_of_length_le (Nat.le_refl _)
    simp only [rightN, holdsN, okN, e1, e2, hl, decide_true, Bool.and_true]
    have hp := @capN_pos nd.tree nd.leaf
    have e3 : decide (0 < capN (widN nd.tree nd.leaf)) = decide (widN nd.tree nd.leaf ≠ 0) := by
      rw [Bool.eq_iff_iff, decide_eq_true_eq, decide_eq_true_eq]; exact hp
    rw [e3]
    generalize decide (widN nd.tree nd.leaf ≠ 0) = x1
    generalize decide (nd.keys.length ≤ capN (widN nd.tree nd.leaf)) = x2
    generalize (nd.vals.all fun v => v.length == widN nd.tree nd.leaf) = x3
    generalize upFrom (-1) nd.keys = x4
    generalize (nd.leaf || decide (0 < nd.keys.length)) = x5
    cases x1 <;> cases x2 <;> cases x3 <;> cases x4 <;> cases x5 <;> rfl
  · simp [rightN, hl]

theorem okN_step {nd : Nod} {k : Nat} (hk : k < nd.keys.length) (hv : k < nd.vals.length) : okN nd (k + 1) = (okN nd k && ((nd.vals[k].length == widN nd.tree nd.leaf) && (decide (prevK (-1) nd.keys k < nd.keys[k]) && decide (nd.keys[k] ≤ maxK)))) := by
  rw [okN, okN, upFrom_step hk, List.take_succ_eq_append_getElem hv, List.all_append]
  simp only [List.all_cons, List.all_nil, Bool.and_true]
  generalize (nd.vals.take k).all (fun v => v.length == widN nd.tree nd.leaf) = x1
  generalize upFrom (-1) (nd.keys.take k) = x2
  generalize (nd.vals[k].length == widN nd.tree nd.leaf) = x3
  cases x1 <;> cases x2 <;> cases x3 <;> rfl

theorem okN_false {nd : Nod} (k : Nat) (h : okN nd k = false) : okN nd nd.keys.length = false ∨ nd.vals.length ≠ nd.keys.length := by
  by_cases hl : nd.vals.length = nd.keys.length
  · left
    simp only [okN, Bool.and_eq_false_iff] at h ⊢
    rcases h with h | h
    · left
      rw [List.all_eq_false] at h ⊢
      obtain ⟨x, hx, h⟩ := h
      rw [List.take_of_length_le (by omega)]
      exact ⟨x, List.mem_of_mem_take hx, h⟩
    · right
      rw [List.take_of_length_le (Nat.le_refl _)]
      exact upFrom_take k h
  · exact .inr hl

theorem prevK_bd {l : List Int} {i : Nat} (hi : i ≤ l.length) (h : upFrom (-1) (l.take i) = true) : -1 ≤ prevK (-1) l i ∧ prevK (-1) l i ≤ maxK := by
  simp only [prevK]
  split
  · exact ⟨by omega, by simp [maxK]⟩
  · have hm : l.getD (i - 1) 0 ∈ l.take i := by
      rw [List.getD_eq_getElem?_getD, List.getElem?_eq_getElem (by omega)]
      simp only [Option.getD_some]
      have : (l.take i)[i - 1]'(by rw [List.length_take]; omega) = l[i - 1] := List.getElem_take
      rw [← this]
      exact List.getElem_mem _
    have := upFrom_bounds h _ hm
    omega

theorem prevK_succ {p : Int} {l : List Int} {i : Nat} (h : i < l.length) : prevK p l (i + 1) = l[i] := by
  simp [prevK, List.getD_eq_getElem?_getD, h]

theorem followsE_ok {key p : Int} (hp : -1 ≤ p) : followsE key (p + 1) = 0 ↔ p < key ∧ key ≤ maxK := by
  unfold followsE maxK
  split
  · constructor <;> intro h <;> omega
  · split
    · constructor <;> intro h <;> omega
    · constructor <;> intro h <;> omega
theorem followsE_cases (key least : Int) : followsE key least = 0 ∨ followsE key least = 2 ∨ followsE key least = 8 := by
  unfold followsE
  split
  · simp
  · split <;> simp

theorem strs_cell {w : World} {A : Option Addr} {n c : Nat} {ll : List (List UInt8)} (h : Strs w A n c ll) (hp : 0 < n) :
    ∃ b off, A = some ⟨b, off, none⟩ ∧ b < w.heap.size ∧ ∀ k (hk : k < ll.length), ∃ s : ByteArray, s = ⟨ll[k].toArray⟩ ∧ s.size = ll[k].length ∧ w.cell? ⟨b, off + k, none⟩ = some (.string s) := by
  obtain ⟨b, off, e, hb, hc⟩ := h.row.lit (by rw [strV_length, h.len]; omega)
  exact ⟨b, off, e, hb, fun k hk => ⟨_, rfl, by simp [ByteArray.size], hc k _ (strV_at ll k hk)⟩⟩

set_option maxRecDepth 100000 in
set_option maxHeartbeats 1600000 in
theorem Right_any (w : World) (nd : Nod) (A : Option Addr) (n c : Nat) (A2 : Option Addr) (n2 c2 : Nat) (h : NodIn w nd A n c A2 n2 c2) (r : Bool) (hr : rightN nd = r) :
    Calls Tryz.prog 58 #[nodV nd A n c A2 n2 c2] w fun e w' => e = .returned (.bool r) ∧ Below w.heap.size w w' := by
  have hb : Below w.heap.size w (w.alloc (.cells #[.int .i64 nd.tree, .bool nd.leaf, .slice A n c, .slice A2 n2 c2] 41)) := (Below.refl _ _).alloc (Nat.le_refl _) _
  have hnew := NodAt.new w nd.tree nd.leaf (.slice A n c) (.slice A2 n2 c2)
  have hc0 := hnew.c0
  have hc1 := hnew.c1
  have hc2 := hnew.c2
  have hc3 := hnew.c3
  have HB := Lib.hid hb
  have HN := Lib.hid (h.below hb)
  have hn := h.keys.le
  have hn2 : n2 ≤ 9223372036854775807 := Nat.le_trans h.vals.cap h.vals.most
  have H := Lib.hid (fun r W hr => holds_any nd.tree nd.leaf n W r hn hr)
  have WD := Lib.hid (fun W => Width_any nd.tree nd.leaf W _ rfl)
  have HP := Lib.hid (rightN_parts nd)
  have HR := Lib.hid hr
  have hkl := h.keys.len
  have hvl := h.vals.len
  rw [hkl, hvl] at HP
  obtain ⟨tree, leaf, ks, vs⟩ := nd
  dsimp only at hb hc0 hc1 hc2 hc3 HB HN H WD HP hkl hvl hnew ⊢
  simp only [nodV]
  clear hr hb hnew
  cases hh : holdsN tree leaf n with
  | false =>
    have H0 := Lib.hid (fun W => H.out false W hh)
    obtain rfl : false = r := by rw [← HR.out, HP.out, hh]; rfl
    clear hh h
    go_enter Tryz.func58, Tryz.ntmps58
    go_wp2_with (go_at_call 91; (with_reducible refine (H0.out _).mono ?_); rintro e w' ⟨rfl, rfl⟩)
    go_ret
    exact ⟨rfl, HB.out⟩
  | true =>
    have H0 := Lib.hid (fun W => H.out true W hh)
    have HH := Lib.hid hh
    by_cases hl : n2 = n
    · subst hl
      by_cases hp : 0 < n2
      · obtain ⟨b, off, rfl, hb, hcell⟩ := HN.out.keys.row.lit (by rw [i64s_length]; exact hkl ▸ hp)
        obtain ⟨b2, off2, rfl, hb2, hcell2⟩ := strs_cell HN.out.vals hp
        have HC := Lib.hid hcell
        have HC2 := Lib.hid hcell2
        have HF : Hid (∀ k, okN ⟨tree, leaf, ks, vs⟩ k = false → r = false) := fun k hk => by
          rw [← HR.out, HP.out]
          rcases okN_false k hk with h1 | h1
          · have h1' : okN ⟨tree, leaf, ks, vs⟩ n2 = false := by rw [← hkl]; exact h1
            rw [h1', Bool.and_false]
          · exact absurd (hvl.trans hkl.symm) h1
        clear hh h hcell hcell2
        go_enter Tryz.func58, Tryz.ntmps58
        go_wp2_with (first
          | (go_at_call 91; (with_reducible refine (H0.out _).mono ?_); rintro e w' ⟨rfl, rfl⟩)
          | (go_at_call 93; (with_reducible refine (WD.out _).mono ?_); rintro e w' ⟨rfl, rfl⟩))
        generalize w.alloc (.cells #[.int .i64 tree, .bool leaf, .slice (some ⟨b, off, none⟩) n2 c, .slice (some ⟨b2, off2, none⟩) n2 c2] 41) = W at *
        have HWd : Hid (widN tree leaf ≤ 24) := by rcases widN_cases tree leaf with ⟨h1, _⟩ | ⟨h1, _⟩ | ⟨h1, _⟩ | ⟨h1, _⟩ | ⟨h1, _⟩ <;> (unfold Hid; omega)
        go_loop [4, 33] (fun m i => ∃ k : Nat, k ≤ n2 ∧ i = .int .i64 k ∧ ∃ l : Int, m = .int .i64 l ∧ 0 ≤ l ∧ l ≤ 281474976710656 ∧ Hid (l = prevK (-1) ks k + 1) ∧ Hid (okN ⟨tree, leaf, ks, vs⟩ k = true)) (fun _ i => n2 - (intOf i).toNat)
        case atStart => exact ⟨0, by omega, rfl, 0, rfl, by omega, by omega, rfl, rfl⟩
        case round =>
          obtain ⟨k, hk, rfl, l, rfl, hl0, hl1, hL, hO⟩ := hrel
          by_cases hlt : k < n2
          · have hkk : k < ks.length := by omega
            have hkv : k < vs.length := by omega
            have hcc := HC.out k _ (i64s_at ks k hkk)
            obtain ⟨s, hse, hsz, hcs⟩ := HC2.out k hkv
            clear hse
            have hst := okN_step (nd := ⟨tree, leaf, ks, vs⟩) hkk hkv
            rw [hO.out, Bool.true_and] at hst
            have hpb := prevK_bd (Nat.le_of_lt hkk) (by have := hO.out; simp only [okN, Bool.and_eq_true] at this; exact this.2)
            have hfo := followsE_ok (key := ks[k]) hpb.1
            rw [← hL.out] at hfo
            have hpn := prevK_succ (p := -1) hkk
            have hkb : ks[k] ≤ maxK → ks[k] ≤ 281474976710655 := fun h => h
            have F := Lib.hid (fun W (r : Int) (hx : followsE ks[k] l = r) => follows_any ks[k] l W r hx)
            have hbk := HN.out.kb _ (List.getElem_mem hkk)
            dsimp only at hst
            rcases followsE_cases ks[k] l with hf | hf | hf
            · obtain ⟨hf1, hf2⟩ := hfo.1 hf
              have F0 := Lib.hid (fun W => F.out W 0 hf)
              have hp0 : 0 ≤ ks[k] := by omega
              have hk2 := hkb hf2
              rw [decide_eq_true hf1, decide_eq_true hf2, Bool.and_true, Bool.and_true] at hst
              by_cases hw : vs[k].length = widN tree leaf
              · have hO1 : Hid (okN ⟨tree, leaf, ks, vs⟩ (k + 1) = true) := by rw [hst]; exact beq_iff_eq.2 hw
                have hL1 : Hid (ks[k] + 1 = prevK (-1) ks (k + 1) + 1) := by rw [hpn]; rfl
                rw [hw] at hsz
                have hne : ((s.size : Int) != (widN tree leaf : Int)) = false := by rw [hsz]; simp
                generalize ks[k] = key at *
                clear hst hpb hfo hpn hkb F hbk hf hf1 hf2 hw
                go_wp2_with (go_at_call 95; (with_reducible refine (F0.out _).mono ?_); rintro e w' ⟨rfl, rfl⟩)
                go_round
                case rel => exact ⟨k + 1, by omega, by go_num, _, by go_num, by omega, by omega, hL1, hO1⟩
                case measure => simp [intOf]; omega
              · have hz : r = false := HF.out (k + 1) (by rw [hst]; simpa using hw)
                subst hz
                rw [← hsz] at hw
                generalize ks[k] = key at *
                clear hst hpb hfo hpn hkb F hbk hf hf1 hf2
                have hne : ((s.size : Int) != (widN tree leaf : Int)) = true := by rw [bne_iff_ne]; omega
                go_wp2_with (go_at_call 95; (with_reducible refine (F0.out _).mono ?_); rintro e w' ⟨rfl, rfl⟩)
                go_ret
                exact ⟨rfl, HB.out⟩
            all_goals
              have hz : r = false := HF.out (k + 1) (by
                rw [hst]
                have hx : ¬ (prevK (-1) ks k < ks[k] ∧ ks[k] ≤ maxK) := fun h => by have := hfo.2 h; omega
                have hx2 : (decide (prevK (-1) ks k < ks[k]) && decide (ks[k] ≤ maxK)) = false := by
                  rw [Bool.eq_false_iff]; intro h; simp only [Bool.and_eq_true, decide_eq_true_eq] at h; exact hx h
                rw [hx2, Bool.and_false])
              subst hz
              have F0 := Lib.hid (fun W => F.out W _ hf)
              generalize ks[k] = key at *
              clear hst hpb hfo hpn hkb F hbk hf
              go_wp2_with (go_at_call 95; (with_reducible refine (F0.out _).mono ?_); rintro e w' ⟨rfl, rfl⟩)
              go_ret
              exact ⟨rfl, HB.out⟩
          · obtain rfl : k = n2 := by omega
            have hz : r = true := by
              rw [← HR.out, HP.out, hO.out, HH.out]; simp
            subst hz
            clear hO hL
            go_wp2
            go_ret
            exact ⟨rfl, HB.out⟩
      · obtain rfl : n2 = 0 := by omega
        obtain rfl : true = r := by rw [← HR.out, HP.out, HH.out]; simp [okN, upFrom]
        have H1 : Hid (∀ W, Calls Tryz.prog 91 #[.int .i64 tree, .bool leaf, .int .i64 0] W fun e w' => e = .returned (.bool true) ∧ W = w') := H0
        clear hh h
        go_enter Tryz.func58, Tryz.ntmps58
        go_wp2_with (first
          | (go_at_call 91; (with_reducible refine (H1.out _).mono ?_); rintro e w' ⟨rfl, rfl⟩)
          | (go_at_call 93; (with_reducible refine (WD.out _).mono ?_); rintro e w' ⟨rfl, rfl⟩))
        refine wp_loop_rounds 1 ?_
        rw [rounds_succ]
        go_wp2
        go_ret
        exact ⟨rfl, HB.out⟩
    · obtain rfl : false = r := by rw [← HR.out, HP.out]; simp [hl]
      have hne : ((n2 : Int) != (n : Int)) = true := by rw [bne_iff_ne]; omega
      clear hh h
      go_enter Tryz.func58, Tryz.ntmps58
      go_wp2_with (go_at_call 91; (with_reducible refine (H0.out _).mono ?_); rintro e w' ⟨rfl, rfl⟩)
      go_ret
      exact ⟨rfl, HB.out⟩

end Go.Proofs.YtbeobbanppkmhaaGreatDoor
