/-
  Layer 7: Read whole; short; lives.
-/
import Derived.Test.YtebcbaejpebpfaaNodIA
import Derived.Test.YtebcbaejpebpfaaNodIB
import Derived.Test.YtebcbaejpebpfaaNodIC
import Derived.Test.YtebcbaejpebpfaaNodID
namespace Go.Proofs.Ytebcbaejpebpfaa
open Go.RowKit
set_option linter.unusedVariables false
set_option linter.unusedSimpArgs false

theorem Read_any7 (w : World) (A : Option Addr) (n c : Nat) (l : List UInt8) (hB : Bytes8 w A n c l) : Calls Try.prog 19 #[.slice A n c] w fun e w' => RdPost w l e w' := by
  have bad : ¬ formN l = true → Calls Try.prog 19 #[.slice A n c] w (fun e w' => e = .returned (.tuple #[zeroNode, .int .i64 7]) ∧ Below w.heap.size w w') → Calls Try.prog 19 #[.slice A n c] w fun e w' => RdPost w l e w' := fun hf hC =>
    hC.mono fun e w' ⟨h1, h2⟩ => by rw [h1]; exact rdPost_bad (readNE_bad hf) h2
  by_cases h : l.length = 244
  · cases hh : holdsN (treeR l) (leafR l) (cntR l) with
    | false =>
      refine bad (fun hf => ?_) (Read_holds w A n c l hB h hh)
      have := ((form_iff h).1 (formN_iff.1 hf)).1.1
      rw [hh] at this
      exact absurd this (by simp)
    | true =>
      by_cases hp : l.take 12 = nodHeadB l
      · have hc : 0 < capN (widN (treeR l) (leafR l)) := by
          have := hh; simp only [holdsN, Bool.and_eq_true, decide_eq_true_eq] at this; exact this.1.1
        rcases widN_cases (treeR l) (leafR l) with ⟨a, b⟩ | ⟨a, b⟩ | ⟨a, b⟩ | ⟨a, b⟩ | ⟨a, b⟩
        · omega
        · exact Read_restA w A n c l hB h hh hp 4 18 ⟨rfl, rfl⟩ a b
        · exact Read_restB w A n c l hB h hh hp 8 12 ⟨rfl, rfl⟩ a b
        · exact Read_restC w A n c l hB h hh hp 24 6 ⟨rfl, rfl⟩ a b
        · exact Read_restD w A n c l hB h hh hp 16 9 ⟨rfl, rfl⟩ a b
      · exact bad (fun hf => hp ((form_iff h).1 (formN_iff.1 hf)).1.2) (Read_prefix w A n c l hB h hh hp)
  · exact bad (fun hf => h (formN_iff.1 hf).len) (Read_len w A n c l hB h)

/-! ### short -/
def sumW (vs : List (List UInt8)) : Nat → Int
  | 0 => 0
  | k + 1 => wrap64 (sumW vs k + ((vs.getD k []).length : Int))
def shortN (nd : Nod) : Bool := decide (nd.keys.length ≤ 100) && (decide (nd.vals.length ≤ 100) && decide (sumW nd.vals (min nd.vals.length 101) ≤ 3000))

set_option maxHeartbeats 1600000 in
theorem short_any (w : World) (nd : Nod) (A : Option Addr) (n c : Nat) (A2 : Option Addr) (n2 c2 : Nat) (h : NodIn w nd A n c A2 n2 c2) (r : Bool) (hr : shortN nd = r) :
    Calls Try.prog 7 #[nodV nd A n c A2 n2 c2] w fun e w' => e = .returned (.bool r) ∧ Below w.heap.size w w' := by
  have hb : Below w.heap.size w (w.alloc (.cells #[.int .i64 nd.tree, .bool nd.leaf, .slice A n c, .slice A2 n2 c2] 25)) := (Below.refl _ _).alloc (Nat.le_refl _) _
  have hnew := NodAt.new w nd.tree nd.leaf (.slice A n c) (.slice A2 n2 c2)
  have hc0 := hnew.c0
  have hc1 := hnew.c1
  have hc2 := hnew.c2
  have hc3 := hnew.c3
  have HB := Lib.hid hb
  have HN := Lib.hid (h.below hb)
  have hn := h.keys.le
  have hn2 : n2 ≤ 9223372036854775807 := Nat.le_trans h.vals.cap h.vals.most
  have HR := Lib.hid hr
  have hkl := h.keys.len
  have hvl := h.vals.len
  obtain ⟨tree, leaf, ks, vs⟩ := nd
  dsimp only at hb hc0 hc1 hc2 hc3 HB HN hkl hvl hnew ⊢
  simp only [nodV]
  clear hr hb hnew h
  go_enter Try.func7, Try.ntmps7
  go_wp2
  generalize w.alloc (.cells #[.int .i64 tree, .bool leaf, .slice A n c, .slice A2 n2 c2] 25) = W at *
  go_loop [3, 4] (fun a i => ∃ k : Nat, k ≤ n2 ∧ k ≤ 101 ∧ i = .int .i64 k ∧ ∃ x : Int, a = .int .i64 x ∧ Hid (x = sumW vs k)) (fun _ i => 101 - (intOf i).toNat)
  case atStart => exact ⟨0, by omega, by omega, rfl, 0, rfl, rfl⟩
  case round =>
    obtain ⟨k, hk, hk1, rfl, x, rfl, hX⟩ := hrel
    by_cases hlt : k < n2
    · by_cases hlt2 : k < 101
      · have hkv : k < vs.length := by omega
        obtain ⟨b2, off2, rfl, hb2, hcell2⟩ := strs_cell HN.out.vals (by omega)
        obtain ⟨s, hse, hsz, hcs⟩ := hcell2 k hkv
        have hX1 : Hid (wrap64 (x + (s.size : Int)) = sumW vs (k + 1)) := by
          rw [hsz, hX.out, sumW]
          congr 3
          simp [List.getD_eq_getElem?_getD, hkv]
        clear hse hcell2 hsz
        go_wp2
        go_round
        case rel => exact ⟨k + 1, by omega, by omega, by go_num, _, rfl, hX1⟩
        case measure => simp [intOf]; omega
      · have hmin : min vs.length 101 = k := by rw [hvl]; omega
        have hr : r = (decide (ks.length ≤ 100) && (decide (vs.length ≤ 100) && decide (x ≤ 3000))) := by rw [← HR.out, shortN, hmin, hX.out]
        have h101 : ¬ n2 ≤ 100 := by omega
        obtain rfl : r = false := by rw [hr, hvl, decide_eq_false h101]; simp
        clear hr hmin
        by_cases h1 : n ≤ 100
        all_goals
          go_wp2
          go_ret
          exact ⟨rfl, HB.out⟩
    · obtain rfl : k = n2 := by omega
      have hmin : min vs.length 101 = k := by rw [hvl]; omega
      have hr : r = (decide (ks.length ≤ 100) && (decide (vs.length ≤ 100) && decide (x ≤ 3000))) := by rw [← HR.out, shortN, hmin, hX.out]
      rw [hkl, hvl] at hr
      clear hmin
      by_cases h1 : n ≤ 100
      · by_cases h2 : k ≤ 100
        · by_cases h3 : x ≤ 3000
          · obtain rfl : r = true := by rw [hr, decide_eq_true h1, decide_eq_true h2, decide_eq_true h3]; rfl
            clear hr
            go_wp2
            go_ret
            exact ⟨rfl, HB.out⟩
          · obtain rfl : r = false := by rw [hr, decide_eq_false h3]; simp
            clear hr
            go_wp2
            go_ret
            exact ⟨rfl, HB.out⟩
        · obtain rfl : r = false := by rw [hr, decide_eq_false h2]; simp
          clear hr
          go_wp2
          go_ret
          exact ⟨rfl, HB.out⟩
      · obtain rfl : r = false := by rw [hr, decide_eq_false h1]; simp
        clear hr
        go_wp2
        go_ret
        exact ⟨rfl, HB.out⟩

/-! ### lives -/
def nd0 : Nod := ⟨5, true, [9], [[97, 98, 99, 100]]⟩
theorem nd0_begins : (encNod nd0).take 13 = [1, 5, 1, 0, 4, 0, 18, 0, 0, 0, 0, 0, 9] := by decide +kernel

set_option maxHeartbeats 400000 in
theorem lives7_any (w : World) : Calls Try.prog 8 #[] w fun e w' => e = .returned (.bool true) ∧ Below w.heap.size w w' := by
  obtain ⟨t1, t2, tb⟩ : ((w.alloc (.cells #[.int .i64 9] 3)).alloc (.cells #[.string ⟨#[97, 98, 99, 100]⟩] 9)).heap[w.heap.size]? = some (.cells #[.int .i64 9] 3 (0, 0)) ∧ ((w.alloc (.cells #[.int .i64 9] 3)).alloc (.cells #[.string ⟨#[97, 98, 99, 100]⟩] 9)).heap[w.heap.size + 1]? = some (.cells #[.string ⟨#[97, 98, 99, 100]⟩] 9 (0, 0)) ∧ Below w.heap.size w ((w.alloc (.cells #[.int .i64 9] 3)).alloc (.cells #[.string ⟨#[97, 98, 99, 100]⟩] 9)) := by
    have h1 := heap_alloc_new w (.cells #[.int .i64 9] 3)
    have h2 := heap_alloc_new (w.alloc (.cells #[.int .i64 9] 3)) (.cells #[.string ⟨#[97, 98, 99, 100]⟩] 9)
    have b1 : Below w.heap.size w (w.alloc (.cells #[.int .i64 9] 3)) := (Below.refl _ _).alloc (Nat.le_refl _) _
    have b2 : Below (w.alloc (.cells #[.int .i64 9] 3)).heap.size (w.alloc (.cells #[.int .i64 9] 3)) ((w.alloc (.cells #[.int .i64 9] 3)).alloc (.cells #[.string ⟨#[97, 98, 99, 100]⟩] 9)) := (Below.refl _ _).alloc (Nat.le_refl _) _
    have hs : (w.alloc (.cells #[.int .i64 9] 3)).heap.size = w.heap.size + 1 := by simp
    rw [hs] at h2
    exact ⟨(b2.block _ (by omega)).trans h1, h2, b1.trans (b2.mono (by omega))⟩
  have hin : NodIn ((w.alloc (.cells #[.int .i64 9] 3)).alloc (.cells #[.string ⟨#[97, 98, 99, 100]⟩] 9)) nd0 (some ⟨w.heap.size, 0, none⟩) 1 1 (some ⟨w.heap.size + 1, 0, none⟩) 1 1 :=
    ⟨⟨rfl, by omega, by omega, Row.of_block t1⟩, ⟨rfl, by omega, by omega, Row.of_block t2⟩, by simp [i64b, nd0], by simp [i64b, nd0], by simp [nd0]⟩
  have S : Hid (Calls Try.prog 9 #[.agg #[.int .i64 5, .bool true, .slice (some ⟨w.heap.size, 0, none⟩) 1 1, .slice (some ⟨w.heap.size + 1, 0, none⟩) 1 1]] ((w.alloc (.cells #[.int .i64 9] 3)).alloc (.cells #[.string ⟨#[97, 98, 99, 100]⟩] 9)) fun e w' => ∃ g, e = .returned (.tuple #[.slice (some ⟨g, 0, none⟩) 244 244, .int .i64 0]) ∧
      (convert 28 9 (.slice (some ⟨g, 0, none⟩) 13 244)).run Try.prog w' = .ok (.string ⟨#[1, 5, 1, 0, 4, 0, 18, 0, 0, 0, 0, 0, 9]⟩) w' ∧ Below w.heap.size w w') :=
    (NPut_good _ nd0 _ 1 1 _ 1 1 hin (by decide +kernel)).mono fun e w' ⟨g, h1, h2, h3⟩ => by
      have hB := h2.bytes (n := 244) (encNod_length (by decide +kernel)) (by omega)
      have hB2 : Bytes8 w' (some ⟨g, 0, none⟩) 13 244 [1, 5, 1, 0, 4, 0, 18, 0, 0, 0, 0, 0, 9] := by
        refine ⟨rfl, by omega, by omega, ?_⟩
        have := hB.row.take 13
        rw [u8s_take, nd0_begins] at this
        exact this
      exact ⟨g, h1, run_str hB2, tb.trans (h3.mono tb.size)⟩
  clear t1 t2 tb hin
  go_enter Try.func8, Try.ntmps8
  go_wp2_with (go_at_call 9; (with_reducible refine (S.out).mono ?_); rintro e w1 ⟨g, rfl, hc, hb1⟩)
  go_ret
  exact ⟨rfl, hb1⟩

end Go.Proofs.Ytebcbaejpebpfaa
