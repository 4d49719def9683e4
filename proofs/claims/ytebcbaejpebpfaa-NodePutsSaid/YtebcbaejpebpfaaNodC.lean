/-
  Layer 7's begin; what an encoding is made of.
-/
import Derived.Test.YtebcbaejpebpfaaNodB
import Derived.Test.YtebcbaejpebpfaaCodeH
import Derived.Test.YtebcbaejpebpfaaMemH
import Derived.Test.YtebcbaejpebpfaaMemG
namespace Go.Proofs.Ytebcbaejpebpfaa
open Go.RowKit
set_option linter.unusedVariables false
set_option linter.unusedSimpArgs false

/-- what stands ahead of the keys -/
def beginF (tree : Int) (leaf : Bool) (cnt : Int) : List (Int × Int) := [(1, if leaf = true then 1 else 0), (1, tree), (2, cnt), (2, (widN tree leaf : Int)), (2, (capN (widN tree leaf) : Int)), (4, 0)]

set_option maxHeartbeats 400000 in
theorem begin_any (tree : Int) (leaf : Bool) (cnt : Int) (w : World) (B : Nat) (hB : B ≤ w.heap.size) :
    Calls Try.prog 21 #[.int .i64 tree, .bool leaf, .int .i64 cnt] w fun e w' => ∃ v', e = .returned v' ∧ w'.ownsRow B 47 2 v' 6 (flds (beginF tree leaf cnt)) ∧ Below B w w' := by
  have WD := Lib.hid (fun W => Width_any tree leaf W _ rfl)
  have MX := Lib.hid (fun W => Max_any tree leaf W _ rfl)
  have hF : ∀ leaf, flds (beginF tree leaf cnt) = [.int .i64 1, .int .i64 (if leaf = true then 1 else 0), .int .i64 1, .int .i64 tree, .int .i64 2, .int .i64 cnt, .int .i64 2, .int .i64 (widN tree leaf : Int), .int .i64 2, .int .i64 (capN (widN tree leaf) : Int), .int .i64 4, .int .i64 0] := fun _ => rfl
  rw [hF]
  generalize widN tree leaf = wd at *
  generalize capN wd = mx at *
  clear hF
  have hlit : ∀ x : Int, _ := fun x => World.ownsRow_lit (base := B) (e := 47) (size := 2) w #[.int .i64 1, .int .i64 x, .int .i64 1, .int .i64 tree, .int .i64 2, .int .i64 cnt, .int .i64 2, .int .i64 (wd : Int), .int .i64 2, .int .i64 (mx : Int), .int .i64 4, .int .i64 0] 6 hB (by simp [maxLen]) rfl
  have hbel : ∀ o, Below B w (w.alloc o) := fun o => (Below.refl _ _).alloc hB _
  cases leaf
  all_goals
    go_enter Try.func21, Try.ntmps21
    go_wp2_with (first
      | (go_at_call 15; (with_reducible refine (WD.out _).mono ?_); rintro e w' ⟨rfl, rfl⟩)
      | (go_at_call 17; (with_reducible refine (MX.out _).mono ?_); rintro e w' ⟨rfl, rfl⟩))
    go_ret
    exact ⟨_, rfl, hlit _, hbel _⟩

/-! ### the bytes -/
def keyF (ks : List Int) : List (Int × Int) := ks.map fun k => (8, k)
theorem keyF_length (ks : List Int) : (keyF ks).length = ks.length := by simp [keyF]

theorem packE_begin {nd : Nod} (h : rightN nd = true) : packE (beginF nd.tree nd.leaf nd.keys.length ++ keyF nd.keys) = 0 := by
  obtain ⟨h1, h2, h3, h4, h5, h6⟩ := rightN_iff.1 h
  obtain ⟨ht1, ht2⟩ := widN_tree h1
  have hkb := upFrom_bounds h5
  have hwc : widN nd.tree nd.leaf ≤ 24 ∧ capN (widN nd.tree nd.leaf) ≤ 18 := by rcases widN_cases nd.tree nd.leaf with ⟨a, b⟩ | ⟨a, b⟩ | ⟨a, b⟩ | ⟨a, b⟩ | ⟨a, b⟩ <;> rw [b, a] <;> omega
  obtain ⟨hw1, hw2⟩ := hwc
  rw [packE_append]
  have e1 : packE (beginF nd.tree nd.leaf nd.keys.length) = 0 := by
    have f1 : fitsB (if nd.leaf = true then 1 else 0) 1 = true := by cases nd.leaf <;> rfl
    have f2 : fitsB nd.tree 1 = true := by simp [fitsB]; omega
    have f3 : fitsB (nd.keys.length : Int) 2 = true := by simp [fitsB]; omega
    have f4 : fitsB (widN nd.tree nd.leaf : Int) 2 = true := by simp [fitsB]; omega
    have f5 : fitsB (capN (widN nd.tree nd.leaf) : Int) 2 = true := by simp [fitsB]; omega
    have f6 : fitsB 0 4 = true := by rfl
    simp [beginF, packE, isW, f1, f2, f3, f4, f5, f6]
  rw [if_pos e1]
  clear e1 h h1 h2 h3 h4 h5 h6
  generalize nd.keys = ks at hkb ⊢
  induction ks with
  | nil => rfl
  | cons k r ih =>
    have hk := hkb k (by simp)
    have f1 : fitsB k 8 = true := by simp [fitsB]; omega
    have := ih fun x hx => hkb x (by simp [hx])
    simp only [keyF] at this
    simp [keyF, packE, isW, f1, this]

theorem encs_begin {nd : Nod} (h : rightN nd = true) : encs (beginF nd.tree nd.leaf nd.keys.length ++ keyF nd.keys) = nodH nd ++ nodK nd.keys := by
  rw [encs_append]
  congr 1
  · cases hl : nd.leaf <;> simp [beginF, encs, nodH, encN, hl]
  · simp only [encs, keyF, nodK, List.flatMap_def, List.map_map]
    rfl

theorem encs_begin_len {nd : Nod} (h : rightN nd = true) : (encs (beginF nd.tree nd.leaf nd.keys.length ++ keyF nd.keys)).length = 12 + 8 * nd.keys.length := by
  rw [encs_begin h, List.length_append, nodH_len, nodK_len]

/-- the bytes after k values have been copied -/
def putK (nd : Nod) (k : Nat) : List UInt8 :=
  nodH nd ++ (nodK nd.keys ++ (List.replicate (8 * (capN (widN nd.tree nd.leaf) - nd.keys.length)) 0 ++ ((nd.vals.take k).flatten ++ List.replicate (232 - 8 * capN (widN nd.tree nd.leaf) - widN nd.tree nd.leaf * k) 0)))

theorem right_fit {nd : Nod} (h : rightN nd = true) : 12 + 8 * capN (widN nd.tree nd.leaf) + widN nd.tree nd.leaf * nd.keys.length ≤ 244 ∧ nd.keys.length ≤ capN (widN nd.tree nd.leaf) ∧ capN (widN nd.tree nd.leaf) ≤ 18 ∧ widN nd.tree nd.leaf ≤ 24 := by
  obtain ⟨h1, h2, h3, h4, h5, h6⟩ := rightN_iff.1 h
  have hm : widN nd.tree nd.leaf * nd.keys.length ≤ widN nd.tree nd.leaf * capN (widN nd.tree nd.leaf) := Nat.mul_le_mul_left _ h2
  rcases widN_cases nd.tree nd.leaf with ⟨a, b⟩ | ⟨a, b⟩ | ⟨a, b⟩ | ⟨a, b⟩ | ⟨a, b⟩
  · exact absurd a h1
  all_goals
    rw [b] at hm h2
    rw [a] at hm
    rw [b, a]
    omega

theorem splice_zeros {x v : List UInt8} {i m : Nat} (hi : x.length = i) (hv : v.length ≤ m) : splice (x ++ List.replicate m 0) i v = x ++ (v ++ List.replicate (m - v.length) 0) := by
  subst hi
  rw [splice, List.take_left, List.drop_append, List.drop_of_length_le (by omega), List.nil_append, List.drop_replicate]
  congr 2
  congr 1
  omega

theorem putK_zero {nd : Nod} (h : rightN nd = true) : splice (List.replicate 244 0) 0 (encs (beginF nd.tree nd.leaf nd.keys.length ++ keyF nd.keys)) = putK nd 0 := by
  have hf := right_fit h
  have := splice_zeros (x := []) (v := encs (beginF nd.tree nd.leaf nd.keys.length ++ keyF nd.keys)) (i := 0) (m := 244) rfl (by rw [encs_begin_len h]; omega)
  rw [List.nil_append, List.nil_append] at this
  rw [this, encs_begin_len h, encs_begin h, putK, List.take_zero, List.flatten_nil, List.nil_append, Nat.mul_zero, Nat.sub_zero, List.append_assoc, List.replicate_append_replicate]
  congr 2
  congr 1
  omega

theorem putK_step {nd : Nod} (h : rightN nd = true) {k : Nat} (hk : k < nd.vals.length) : splice (putK nd k) (12 + 8 * capN (widN nd.tree nd.leaf) + widN nd.tree nd.leaf * k) nd.vals[k] = putK nd (k + 1) := by
  obtain ⟨h1, h2, h3, h4, h5, h6⟩ := rightN_iff.1 h
  have hf := right_fit h
  have hvk : nd.vals[k].length = widN nd.tree nd.leaf := h4 _ (List.getElem_mem hk)
  have hvl : (nd.vals.take k).flatten.length = widN nd.tree nd.leaf * k := by
    rw [flat_length (c := widN nd.tree nd.leaf) (fun p hp => h4 p (List.mem_of_mem_take hp)), List.length_take, Nat.min_eq_left (by omega)]
  have hm : widN nd.tree nd.leaf * (k + 1) ≤ widN nd.tree nd.leaf * nd.keys.length := Nat.mul_le_mul_left _ (by omega)
  rw [Nat.mul_add, Nat.mul_one] at hm
  have e1 : putK nd k = (nodH nd ++ (nodK nd.keys ++ (List.replicate (8 * (capN (widN nd.tree nd.leaf) - nd.keys.length)) 0 ++ (nd.vals.take k).flatten))) ++ List.replicate (232 - 8 * capN (widN nd.tree nd.leaf) - widN nd.tree nd.leaf * k) 0 := by
    simp only [putK, List.append_assoc]
  rw [e1, splice_zeros (by simp only [List.length_append, nodH_len, nodK_len, List.length_replicate, hvl]; omega) (by rw [hvk]; omega), putK, List.take_succ_eq_append_getElem hk, List.flatten_append, hvk]
  simp only [List.append_assoc, List.flatten_cons, List.flatten_nil, List.append_nil, Nat.mul_add, Nat.mul_one, Nat.sub_sub, Nat.add_assoc]

theorem putK_all {nd : Nod} (h : rightN nd = true) : putK nd nd.keys.length = encNod nd := by
  obtain ⟨h1, h2, h3, h4, h5, h6⟩ := rightN_iff.1 h
  rw [putK, encNod, List.take_of_length_le (by omega)]

theorem putK_length {nd : Nod} (h : rightN nd = true) {k : Nat} (hk : k ≤ nd.keys.length) : (putK nd k).length = 244 := by
  obtain ⟨h1, h2, h3, h4, h5, h6⟩ := rightN_iff.1 h
  have hf := right_fit h
  have hvl : (nd.vals.take k).flatten.length = widN nd.tree nd.leaf * k := by
    rw [flat_length (c := widN nd.tree nd.leaf) (fun p hp => h4 p (List.mem_of_mem_take hp)), List.length_take, Nat.min_eq_left (by omega)]
  have hm : widN nd.tree nd.leaf * k ≤ widN nd.tree nd.leaf * nd.keys.length := Nat.mul_le_mul_left _ hk
  simp only [putK, List.length_append, nodH_len, nodK_len, List.length_replicate, hvl]
  omega

end Go.Proofs.Ytebcbaejpebpfaa
