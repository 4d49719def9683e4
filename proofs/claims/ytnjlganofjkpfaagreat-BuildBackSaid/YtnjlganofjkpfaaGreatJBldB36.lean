/-
  Joined: NodC, NodD, NodE, NodF.
-/
import Derived.Test.YtnjlganofjkpfaaGreatJBldB31
import Derived.Test.YtnjlganofjkpfaaGreatJBldB16
import Derived.Test.YtnjlganofjkpfaaGreatJBldB24
import Derived.Test.YtnjlganofjkpfaaGreatJBldB02
/-
  Layer 7's begin; what an encoding is made of.
-/
namespace Go.Proofs.YtnjlganofjkpfaaGreat
open Go.RowKit
set_option linter.unusedVariables false
set_option linter.unusedSimpArgs false

/-- what stands ahead of the keys -/
def beginF (tree : Int) (leaf : Bool) (cnt : Int) : List (Int × Int) := [(1, if leaf = true then 1 else 0), (1, tree), (2, cnt), (2, (widN tree leaf : Int)), (2, (capN (widN tree leaf) : Int)), (4, 0)]

set_option maxRecDepth 100000 in
set_option maxHeartbeats 400000 in
theorem begin_any (tree : Int) (leaf : Bool) (cnt : Int) (w : World) (B : Nat) (hB : B ≤ w.heap.size) :
    Calls Tryz.prog 51 #[.int .i64 tree, .bool leaf, .int .i64 cnt] w fun e w' => ∃ v', e = .returned v' ∧ w'.ownsRow B 104 2 v' 6 (flds (beginF tree leaf cnt)) ∧ Below B w w' := by
  have WD := Lib.hid (fun W => Width_any tree leaf W _ rfl)
  have MX := Lib.hid (fun W => Max_any tree leaf W _ rfl)
  have hF : ∀ leaf, flds (beginF tree leaf cnt) = [.int .i64 1, .int .i64 (if leaf = true then 1 else 0), .int .i64 1, .int .i64 tree, .int .i64 2, .int .i64 cnt, .int .i64 2, .int .i64 (widN tree leaf : Int), .int .i64 2, .int .i64 (capN (widN tree leaf) : Int), .int .i64 4, .int .i64 0] := fun _ => rfl
  rw [hF]
  generalize widN tree leaf = wd at *
  generalize capN wd = mx at *
  clear hF
  have hlit : ∀ x : Int, _ := fun x => World.ownsRow_lit (base := B) (e := 104) (size := 2) w #[.int .i64 1, .int .i64 x, .int .i64 1, .int .i64 tree, .int .i64 2, .int .i64 cnt, .int .i64 2, .int .i64 (wd : Int), .int .i64 2, .int .i64 (mx : Int), .int .i64 4, .int .i64 0] 6 hB (by simp [maxLen]) rfl
  have hbel : ∀ o, Below B w (w.alloc o) := fun o => (Below.refl _ _).alloc hB _
  cases leaf
  all_goals
    go_enter Tryz.func51, Tryz.ntmps51
    go_wp2_with (first
      | (go_at_call 28; (with_reducible refine (WD.out _).mono ?_); rintro e w' ⟨rfl, rfl⟩)
      | (go_at_call 22; (with_reducible refine (MX.out _).mono ?_); rintro e w' ⟨rfl, rfl⟩))
    go_ret
    exact ⟨_, rfl, hlit _, hbel _⟩

/-! ### the bytes -/
def keyF (ks : List Int) : List (Int × Int) := ks.map fun k => (8, k)
theorem packE_begin {nd : Nod} (h : rightN nd = true) : packE (beginF nd.tree nd.leaf nd.keys.length ++ keyF nd.keys) = 0 := by
  obtain ⟨h1, h2, h3, h4, h5, h6⟩ := rightN_iff.1 h
  obtain ⟨ht1, ht2⟩ := widN_tree h1
  have hkb := upFrom_bounds h5
  have hwc : widN nd.tree nd.leaf ≤ 24 ∧ capN (widN nd.tree nd.leaf) ≤ 18 := by rcases widN_cases nd.tree nd.leaf with ⟨a, b⟩ | ⟨a, b⟩ | ⟨a, b⟩ | ⟨a, b⟩ | ⟨a, b⟩ <;> rw [b, a] <;> omega
  obtain ⟨hw1, hw2⟩ := hwc
  rw [packE_append]
  have e1 : packE (beginF nd.tree nd.leaf nd.keys.length) = 0 := by
    have f1 : fitsB (if nd.leaf = true then 1 else 0) 1 = true := by cases nd.leaf <;> rfl
    have f2 : fitsB nd.tree 1 = true := by simp [fitsB]; omega
    have f3 : fitsB (nd.keys.length : Int) 2 = true := by simp [fitsB]; omega
    have f4 : fitsB (widN nd.tree nd.leaf : Int) 2 = true := by simp [fitsB]; omega
    have f5 : fitsB (capN (widN nd.tree nd.leaf) : Int) 2 = true := by simp [fitsB]; omega
    have f6 : fitsB 0 4 = true := by rfl
    simp [beginF, packE, isW, f1, f2, f3, f4, f5, f6]
  rw [if_pos e1]
  clear e1 h h1 h2 h3 h4 h5 h6
  generalize nd.keys = ks at hkb ⊢
  induction ks with
  | nil => rfl
  | cons k r ih =>
    have hk := hkb k (by simp)
    have f1 : fitsB k 8 = true := by simp [fitsB]; omega
    have := ih fun x hx => hkb x (by simp [hx])
    simp only [keyF] at this
    simp [keyF, packE, isW, f1, this]

theorem encs_begin {nd : Nod} (h : rightN nd = true) : encs (beginF nd.tree nd.leaf nd.keys.length ++ keyF nd.keys) = nodH nd ++ nodK nd.keys := by
  rw [encs_append]
  congr 1
  · cases hl : nd.leaf <;> simp [beginF, encs, nodH, encN, hl]
  · simp only [encs, keyF, nodK, List.flatMap_def, List.map_map]
    rfl

theorem encs_begin_len {nd : Nod} (h : rightN nd = true) : (encs (beginF nd.tree nd.leaf nd.keys.length ++ keyF nd.keys)).length = 12 + 8 * nd.keys.length := by
  rw [encs_begin h, List.length_append, nodH_len, nodK_len]

/-- the bytes after k values have been copied -/
def putK (nd : Nod) (k : Nat) : List UInt8 :=
  nodH nd ++ (nodK nd.keys ++ (List.replicate (8 * (capN (widN nd.tree nd.leaf) - nd.keys.length)) 0 ++ ((nd.vals.take k).flatten ++ List.replicate (232 - 8 * capN (widN nd.tree nd.leaf) - widN nd.tree nd.leaf * k) 0)))

theorem right_fit {nd : Nod} (h : rightN nd = true) : 12 + 8 * capN (widN nd.tree nd.leaf) + widN nd.tree nd.leaf * nd.keys.length ≤ 244 ∧ nd.keys.length ≤ capN (widN nd.tree nd.leaf) ∧ capN (widN nd.tree nd.leaf) ≤ 18 ∧ widN nd.tree nd.leaf ≤ 24 := by
  obtain ⟨h1, h2, h3, h4, h5, h6⟩ := rightN_iff.1 h
  have hm : widN nd.tree nd.leaf * nd.keys.length ≤ widN nd.tree nd.leaf * capN (widN nd.tree nd.leaf) := Nat.mul_le_mul_left _ h2
  rcases widN_cases nd.tree nd.leaf with ⟨a, b⟩ | ⟨a, b⟩ | ⟨a, b⟩ | ⟨a, b⟩ | ⟨a, b⟩
  · exact absurd a h1
  all_goals
    rw [b] at hm h2
    rw [a] at hm
    rw [b, a]
    omega

theorem splice_zeros {x v : List UInt8} {i m : Nat} (hi : x.length = i) (hv : v.length ≤ m) : splice (x ++ List.replicate m 0) i v = x ++ (v ++ List.replicate (m - v.length) 0) := by
  subst hi
  rw [splice, List.take_left, List.drop_append, List.drop_of_length_le (by omega), List.nil_append, List.drop_replicate]
  congr 2
  congr 1
  omega

theorem putK_zero {nd : Nod} (h : rightN nd = true) : splice (List.replicate 244 0) 0 (encs (beginF nd.tree nd.leaf nd.keys.length ++ keyF nd.keys)) = putK nd 0 := by
  have hf := right_fit h
  have := splice_zeros (x := []) (v := encs (beginF nd.tree nd.leaf nd.keys.length ++ keyF nd.keys)) (i := 0) (m := 244) rfl (by rw [encs_begin_len h]; omega)
  rw [List.nil_append, List.nil_append] at this
  rw [this, encs_begin_len h, encs_begin h, putK, List.take_zero, List.flatten_nil, List.nil_append, Nat.mul_zero, Nat.sub_zero, List.append_assoc, List.replicate_append_replicate]
  congr 2
  congr 1
  omega

theorem putK_step {nd : Nod} (h : rightN nd = true) {k : Nat} (hk : k < nd.vals.length) : splice (putK nd k) (12 + 8 * capN (widN nd.tree nd.leaf) + widN nd.tree nd.leaf * k) nd.vals[k] = putK nd (k + 1) := by
  obtain ⟨h1, h2, h3, h4, h5, h6⟩ := rightN_iff.1 h
  have hf := right_fit h
  have hvk : nd.vals[k].length = widN nd.tree nd.leaf := h4 _ (List.getElem_mem hk)
  have hvl : (nd.vals.take k).flatten.length = widN nd.tree nd.leaf * k := by
    rw [flat_length (c := widN nd.tree nd.leaf) (fun p hp => h4 p (List.mem_of_mem_take hp)), List.length_take, Nat.min_eq_left (by omega)]
  have hm : widN nd.tree nd.leaf * (k + 1) ≤ widN nd.tree nd.leaf * nd.keys.length := Nat.mul_le_mul_left _ (by omega)
  rw [Nat.mul_add, Nat.mul_one] at hm
  have e1 : putK nd k = (nodH nd ++ (nodK nd.keys ++ (List.replicate (8 * (capN (widN nd.tree nd.leaf) - nd.keys.length)) 0 ++ (nd.vals.take k).flatten))) ++ List.replicate (232 - 8 * capN (widN nd.tree nd.leaf) - widN nd.tree nd.leaf * k) 0 := by
    simp only [putK, List.append_assoc]
  rw [e1, splice_zeros (by simp only [List.length_append, nodH_len, nodK_len, List.length_replicate, hvl]; omega) (by rw [hvk]; omega), putK, List.take_succ_eq_append_getElem hk, List.flatten_append, hvk]
  simp only [List.append_assoc, List.flatten_cons, List.flatten_nil, List.append_nil, Nat.mul_add, Nat.mul_one, Nat.sub_sub, Nat.add_assoc]

theorem putK_all {nd : Nod} (h : rightN nd = true) : putK nd nd.keys.length = encNod nd := by
  obtain ⟨h1, h2, h3, h4, h5, h6⟩ := rightN_iff.1 h
  rw [putK, encNod, List.take_of_length_le (by omega)]

theorem putK_length {nd : Nod} (h : rightN nd = true) {k : Nat} (hk : k ≤ nd.keys.length) : (putK nd k).length = 244 := by
  obtain ⟨h1, h2, h3, h4, h5, h6⟩ := rightN_iff.1 h
  have hf := right_fit h
  have hvl : (nd.vals.take k).flatten.length = widN nd.tree nd.leaf * k := by
    rw [flat_length (c := widN nd.tree nd.leaf) (fun p hp => h4 p (List.mem_of_mem_take hp)), List.length_take, Nat.min_eq_left (by omega)]
  have hm : widN nd.tree nd.leaf * k ≤ widN nd.tree nd.leaf * nd.keys.length := Nat.mul_le_mul_left _ hk
  simp only [putK, List.length_append, nodH_len, nodK_len, List.length_replicate, hvl]
  omega

end Go.Proofs.YtnjlganofjkpfaaGreat

/-
  Layer 7's Put.
-/
namespace Go.Proofs.YtnjlganofjkpfaaGreat
open Go.RowKit
set_option linter.unusedVariables false
set_option linter.unusedSimpArgs false

theorem nod_info_field : (Tryz.prog.info? 104).map (fun i => (i.zero, i.size, i.bytes)) = some (some (.agg #[.int .i64 0, .int .i64 0]), 2, 16) := by kernel_rfl

theorem Flds.of_own7 {w : World} {base : Nat} {e : TypeId} {n : Nat} {v : Value} {l : List (Int × Int)} (h : w.ownsRow base e 2 v n (flds l)) (hb : ∀ p ∈ l, i64b p.1 ∧ i64b p.2) (hl : l.length = n) : ∃ A c, v = .slice A n c ∧ Flds w A n c l := by
  obtain ⟨A, c, rfl, h1, h2⟩ := ownsRow_form h
  exact ⟨A, c, rfl, ⟨hl, h1, by simpa [maxLen] using h2, Row.of_own h, hb⟩⟩

theorem NodAt.keep {w w' : World} {p B : Nat} {tree : Int} {leaf : Bool} {s1 s2 : Value} (h : NodAt w p tree leaf s1 s2) (hb : Below B w w') (hp : p < B) : NodAt w' p tree leaf s1 s2 := (hb.block _ hp).trans h

theorem nod_splice8 (a b : List UInt8) (i : Nat) : splice (u8s a) i (u8s b) = u8s (splice a i b) := by simp [splice, u8s]

theorem keyF_step (tree : Int) (leaf : Bool) (cnt : Int) (ks : List Int) {k : Nat} (hk : k < ks.length) : flds (beginF tree leaf cnt ++ keyF (ks.take (k + 1))) = flds (beginF tree leaf cnt ++ keyF (ks.take k)) ++ [.int .i64 8, .int .i64 ks[k]] := by
  rw [List.take_succ_eq_append_getElem hk, keyF, List.map_append, ← List.append_assoc, flds_append]
  rfl

theorem begin_bds {tree : Int} {leaf : Bool} {cnt : Int} (ht : i64b tree) (hc : i64b cnt) : ∀ p ∈ beginF tree leaf cnt, i64b p.1 ∧ i64b p.2 := by
  have hwc : widN tree leaf ≤ 24 ∧ capN (widN tree leaf) ≤ 18 := by rcases widN_cases tree leaf with ⟨a, b⟩ | ⟨a, b⟩ | ⟨a, b⟩ | ⟨a, b⟩ | ⟨a, b⟩ <;> rw [b, a] <;> omega
  obtain ⟨hw1, hw2⟩ := hwc
  intro p hp
  simp only [beginF, List.mem_cons, List.not_mem_nil, or_false] at hp
  rcases hp with rfl | rfl | rfl | rfl | rfl | rfl
  · cases leaf <;> simp [i64b]
  · exact ⟨by simp [i64b], ht⟩
  · exact ⟨by simp [i64b], hc⟩
  · exact ⟨by simp [i64b], by simp only [i64b]; omega⟩
  · exact ⟨by simp [i64b], by simp only [i64b]; omega⟩
  · simp [i64b]

theorem key_bds {ks : List Int} (h : ∀ k ∈ ks, i64b k) : ∀ p ∈ keyF ks, i64b p.1 ∧ i64b p.2 := by
  intro p hp
  obtain ⟨k, hk, rfl⟩ := List.mem_map.1 hp
  exact ⟨by simp [i64b], h k hk⟩

set_option maxRecDepth 100000 in
set_option maxHeartbeats 3200000 in
theorem NPut_good (w : World) (nd : Nod) (A : Option Addr) (n c : Nat) (A2 : Option Addr) (n2 c2 : Nat) (h : NodIn w nd A n c A2 n2 c2) (hr : rightN nd = true) :
    Calls Tryz.prog 40 #[nodV nd A n c A2 n2 c2] w fun e w' => ∃ g, e = .returned (.tuple #[.slice (some ⟨g, 0, none⟩) 244 244, .int .i64 0]) ∧ Own8 w' w.heap.size g (encNod nd) ∧ Below w.heap.size w w' := by
  obtain ⟨W0, hW0⟩ : ∃ W0, W0 = w.alloc (.cells #[.int .i64 nd.tree, .bool nd.leaf, .slice A n c, .slice A2 n2 c2] 70) := ⟨_, rfl⟩
  have hb0 : Below w.heap.size w W0 := by rw [hW0]; exact (Below.refl _ _).alloc (Nat.le_refl _) _
  have hnew : NodAt W0 w.heap.size nd.tree nd.leaf (.slice A n c) (.slice A2 n2 c2) := by rw [hW0]; exact NodAt.new _ _ _ _ _
  have hs0 : W0.heap.size = w.heap.size + 1 := by rw [hW0]; simp
  have HB0 := Lib.hid hb0
  have HA0 := Lib.hid hnew
  have HIN := Lib.hid h
  obtain ⟨hn1, hn2, hn3, hn4, hn5, hn6⟩ := rightN_iff.1 hr
  obtain ⟨hf1, hf2, hf3, hf4⟩ := right_fit hr
  have hkl := h.keys.len
  have hvl := h.vals.len
  obtain rfl : n2 = n := by rw [← hkl, ← hvl]; exact hn3
  have hn18 : n2 ≤ 18 := by omega
  have hw0 : 0 < widN nd.tree nd.leaf := Nat.pos_of_ne_zero hn1
  have toW : ∀ W, Below (w.heap.size + 1) W0 W → Below w.heap.size w W := fun W hW => hb0.trans (hW.mono (by omega))
  have R : Hid (Calls Tryz.prog 50 #[nodV nd A n2 c A2 n2 c2] (w.alloc (.cells #[.int .i64 nd.tree, .bool nd.leaf, .slice A n2 c, .slice A2 n2 c2] 70)) fun e w' => e = .returned (.bool true) ∧ Hid (Below (w.heap.size + 1) W0 w') ∧ Hid (NodAt w' w.heap.size nd.tree nd.leaf (.slice A n2 c) (.slice A2 n2 c2))) := by
    rw [← hW0]
    exact (Right_any _ nd A n2 c A2 n2 c2 (h.below hb0) true hr).mono fun e w' ⟨h1, h2⟩ => ⟨h1, h2.mono (by omega), hnew.later h2⟩
  have BG : Hid (∀ W, Below (w.heap.size + 1) W0 W → Calls Tryz.prog 51 #[.int .i64 nd.tree, .bool nd.leaf, .int .i64 n2] W fun e w' => ∃ v', e = .returned v' ∧ Hid (w'.ownsRow (w.heap.size + 1) 104 2 v' 6 (flds (beginF nd.tree nd.leaf n2))) ∧ Hid (Below (w.heap.size + 1) W0 w')) := fun W hW => by
    have hsz := hW.size
    exact (begin_any nd.tree nd.leaf n2 W (w.heap.size + 1) (by omega)).mono fun e w' ⟨v', h1, h2, h3⟩ => ⟨v', h1, h2, hW.trans h3⟩
  have PK : Hid (∀ A c W, Flds W A (6 + n2) c (beginF nd.tree nd.leaf n2 ++ keyF nd.keys) → Below (w.heap.size + 1) W0 W → Calls Tryz.prog 52 #[.slice A (6 + n2 : Nat) c] W fun e w' => ∃ A' c', e = .returned (.tuple #[.slice A' (12 + 8 * n2) c', .int .i64 0]) ∧ Bytes8 w' A' (12 + 8 * n2) c' (encs (beginF nd.tree nd.leaf n2 ++ keyF nd.keys)) ∧ Hid (Below (w.heap.size + 1) W0 w')) := fun A c W hF hW =>
    (Pack_any A (6 + n2) c _ W hF (by omega)).mono fun e w' ⟨A', m, c', h1, h2, h3⟩ => by
      have e0 := packE_begin hr
      have el := encs_begin_len hr
      rw [hkl] at e0 el
      rw [packB, if_pos e0] at h2
      rw [e0] at h1
      obtain rfl : 12 + 8 * n2 = m := by have := h2.len; rw [el] at this; exact this
      exact ⟨A', c', h1, h2, hW.trans (h3.mono (by have := hW.size; omega))⟩
  have MX := Lib.hid (fun W => Max_any nd.tree nd.leaf W _ rfl)
  have HZ0 := Lib.hid (putK_zero hr)
  have HZ1 : Hid (∀ k, (hk : k < nd.vals.length) → splice (putK nd k) (12 + 8 * capN (widN nd.tree nd.leaf) + widN nd.tree nd.leaf * k) nd.vals[k] = putK nd (k + 1)) := Lib.hid (fun k hk => putK_step hr hk)
  have HZ2 := Lib.hid (putK_all hr)
  have HZ3 : Hid (∀ k, k ≤ n2 → (putK nd k).length = 244) := fun k hk => putK_length hr (by omega)
  have HLen := Lib.hid (encs_begin_len hr)
  have HBD : Hid (∀ p ∈ beginF nd.tree nd.leaf n2 ++ keyF nd.keys, i64b p.1 ∧ i64b p.2) := fun p hp => by
    rcases List.mem_append.1 hp with hp | hp
    · exact begin_bds h.tb (by simp only [i64b]; omega) p hp
    · exact key_bds h.kb p hp
  have HSt : Hid (∀ k, (hk : k < nd.keys.length) → flds (beginF nd.tree nd.leaf n2 ++ keyF (nd.keys.take (k + 1))) = flds (beginF nd.tree nd.leaf n2 ++ keyF (nd.keys.take k)) ++ [.int .i64 8, .int .i64 nd.keys[k]]) := fun k hk => keyF_step _ _ _ nd.keys hk
  rw [hkl] at HZ0 HLen HZ2
  have HV : Hid (∀ v ∈ nd.vals, v.length = widN nd.tree nd.leaf) := hn4
  rw [hkl] at hf1
  obtain ⟨tree, leaf, ks, vs⟩ := nd
  dsimp only at *
  generalize capN (widN tree leaf) = mx at *
  generalize widN tree leaf = wd at *
  clear hn1 hn2 hn3 hn4 hn5 hn6 h hr hb0 hnew hf2 hW0 toW
  obtain ⟨i0, hi0, hz0, hz1, hz2⟩ := info_parts info_u8
  simp only [nodV] at R ⊢
  go_enter Tryz.func40, Tryz.ntmps40
  go_wp2_with (first
    | (go_at_call 50; (with_reducible refine (R.out).mono ?_); rintro e w1 ⟨rfl, hB1, hA1⟩; have k0 := hA1.out.c0; have k1 := hA1.out.c1; have k2 := hA1.out.c2)
    | (go_at_call 51; (with_reducible refine (BG.out _ hB1.out).mono ?_); rintro e w2 ⟨v4, rfl, hO2, hB2⟩; have k2' := (HA0.out.keep hB2.out (Nat.lt_succ_self _)).c2))
  go_loopw [4, 27] (fun v i wr => ∃ k : Nat, k ≤ n2 ∧ i = .int .i64 k ∧ Hid (wr.ownsRow (w.heap.size + 1) 104 2 v (6 + k) (flds (beginF tree leaf n2 ++ keyF (ks.take k)))) ∧ Hid (Below (w.heap.size + 1) W0 wr)) (fun _ i _ => n2 - (intOf i).toNat)
  case atStart => exact ⟨0, by omega, rfl, by simpa [keyF] using hO2, hB2⟩
  case round =>
    clear k0 k1 k2 k2' hO2 hB2 hA1 hB1
    obtain ⟨k, hk, rfl, hown, hbel⟩ := hrel
    have hsW : w.heap.size + 1 ≤ wr.heap.size := by have := hbel.out.size; omega
    by_cases hlt : k < n2
    · have hkk : k < ks.length := by omega
      obtain ⟨b, off, rfl, hb, hcell⟩ := HIN.out.keys.row.lit (by rw [i64s_length]; show 0 < ks.length; omega)
      have hcc : wr.cell? ⟨b, off + k, none⟩ = some (.int .i64 ks[k]) := (hbel.out.cell (p := ⟨b, off + k, none⟩) (by exact Nat.lt_succ_of_lt hb)).trans ((HB0.out.cell (p := ⟨b, off + k, none⟩) hb).trans (hcell k _ (i64s_at ks k hkk)))
      have hst := Lib.hid (HSt.out k hkk)
      generalize ks[k] = key at *
      clear hcell
      go_wp2_with (at_builtin; go_must (refine wpList_append_newS wr rfl (.tmp 31) (.tmp 34) _ rfl (w.heap.size + 1) 104 _ 2 _ 16 Tryz.underlying101 nod_info_field rfl (by omega) u4 _ _ rfl hown hsW [_, _] 1 1 rfl rfl (by simp [Value.oneCell']) (by omega) (by omega) ?_); intro v1 w1 ho1 hs1 hb1)
      go_roundw
      case rel => exact ⟨k + 1, by omega, by go_num, by rw [hst.out]; exact ho1, hbel.out.trans hb1⟩
      case measure => simp [intOf]; omega
    · obtain rfl : k = n2 := by omega
      have htk : ks.take k = ks := List.take_of_length_le (by omega)
      rw [htk] at hown
      obtain ⟨A4, c4, rfl, hF⟩ := Flds.of_own7 hown.out HBD.out (by simp [beginF, keyF]; omega)
      have hF4 := Lib.hid hF
      clear hF hown htk
      have hE44 : 12 + 8 * k ≤ 244 := by omega
      generalize encs (beginF tree leaf k ++ keyF ks) = eb at *
      go_wp2_with (first
        | (go_at_call 52; (with_reducible refine (PK.out _ _ _ hF4.out hbel.out).mono ?_); rintro e w1 ⟨A5, c5, rfl, hB5, hb1⟩; have HB5 := Lib.hid hB5; clear hB5)
        | (at_make; refine wpList_make_full w1 rfl (.const (.int .i64 244)) (.const (.int .i64 244)) _ rfl w1.heap.size 5 i0 _ 1 Tryz.underlying22 hi0 hz0 hz1 .i64 .i64 _ _ 244 rfl rfl rfl rfl (by rw [hz2]; omega) (by simp only [maxLen]; omega) (Nat.le_refl _) ?_; intro w4 hown4 hg4; have hb4 := below_of_grown hg4 (by simp); have HO4 := Lib.hid (own_zeros hown4 (Nat.le_refl _)); clear hown4)
        | (refine wpList_copy_splice rfl (.tmp 46) (.tmp 47) _ _ rfl 5 Tryz.underlying22 size_u8 _ _ _ _ _ _ rfl rfl w1.heap.size 0 _ 5 HO4.out.blk (u8s eb) (by rw [u8s_length, HLen.out]; exact (Nat.min_eq_left hE44).symm) (fun hp => ⟨rfl, (HB5.out.row.below hb4).src hp⟩) (by rw [u8s_length, u8s_length, List.length_replicate, HLen.out]; omega) (u8s_one _) w1.heap.size w1 hb4 (Nat.le_refl _) ?_; intro w5 HG5 hb5; have hB5 : Hid (Below (w.heap.size + 1) W0 w5) := hb1.out.trans (hb5.mono (by have := hb1.out.size; omega)); have hA5 := HA0.out.keep hB5.out (Nat.lt_succ_self _); have q0 := hA5.c0; have q1 := hA5.c1; have q3 := hA5.c3; clear hA5)
        | (go_at_call 22; (with_reducible refine (MX.out _).mono ?_); rintro e w' ⟨rfl, rfl⟩))
      have HG : Hid (w5.heap[w1.heap.size]? = some (.cells (u8s (putK ⟨tree, leaf, ks, vs⟩ 0)).toArray 5 (0, 0))) := by
        have := HG5.out
        rw [nod_splice8, HZ0.out] at this
        exact this
      have hgB : w.heap.size + 1 ≤ w1.heap.size := by have := hb1.out.size; omega
      generalize w1.heap.size = g at *
      go_loopw [10, 59] (fun a i wr => ∃ j : Nat, j ≤ k ∧ i = .int .i64 j ∧ (∃ p : Nat, a = .int .i64 p ∧ p ≤ 244 ∧ Hid (p = 12 + 8 * mx + wd * j)) ∧ Hid (wr.heap[g]? = some (.cells (u8s (putK ⟨tree, leaf, ks, vs⟩ j)).toArray 5 (0, 0))) ∧ Hid (Below (w.heap.size + 1) W0 wr)) (fun _ i _ => k - (intOf i).toNat)
      case atStart => exact ⟨0, by omega, rfl, ⟨12 + 8 * mx, by go_num, by omega, by rw [Nat.mul_zero]; rfl⟩, HG, hB5⟩
      case round =>
        clear HG hB5 HG5 hb5 hb4 HO4 HB5 hb1 q0 q1 q3 HZ0 hF4 hbel
        obtain ⟨j, hj, rfl, ⟨p, rfl, hp, hP⟩, HG, hbel⟩ := hrel
        by_cases hlt : j < k
        · have hjv : j < vs.length := by omega
          obtain ⟨b, off, rfl, hb, hcell⟩ := strs_cell HIN.out.vals (by omega)
          obtain ⟨s, hse, hsz, hcs⟩ := hcell j hjv
          have hcc : wr.cell? ⟨b, off + j, none⟩ = some (.string s) := (hbel.out.cell (p := ⟨b, off + j, none⟩) (by exact Nat.lt_succ_of_lt hb)).trans ((HB0.out.cell (p := ⟨b, off + j, none⟩) hb).trans hcs)
          have hvj : vs[j].length = wd := HV.out _ (List.getElem_mem hjv)
          rw [hvj] at hsz
          have hst := Lib.hid (HZ1.out j hjv)
          have hsu : Hid (u8s s.data.toList = u8s vs[j]) := by rw [hse]; rfl
          have hm : wd * (j + 1) ≤ wd * k := Nat.mul_le_mul_left _ (by omega)
          rw [Nat.mul_add, Nat.mul_one] at hm
          have hpw : p + wd ≤ 244 := by have := hP.out; omega
          have hl := HZ3.out j (by omega)
          have hP1 : Hid (p + wd = 12 + 8 * mx + wd * (j + 1)) := by have := hP.out; rw [Nat.mul_add, Nat.mul_one]; unfold Hid; omega
          have hpn : ¬ 244 = p := by omega
          clear hcell hcs hse hvj hm
          generalize vs[j] = vj at *
          go_wp2_with (refine wpList_copy_str rfl (.tmp 66) (.tmp 67) _ _ rfl 5 Tryz.underlying22 size_u8 g p (244 - p) (244 - p) s wd hsz rfl rfl (by omega) (u8s (putK ⟨tree, leaf, ks, vs⟩ j)) 5 HG.out (by rw [u8s_length, hl]; omega) (w.heap.size + 1) W0 hbel.out hgB ?_; intro w6 HG6 hb6)
          go_roundw
          case rel =>
            refine ⟨j + 1, by omega, by go_num, ⟨p + wd, by go_num, hpw, hP1⟩, ?_, hb6⟩
            have := HG6.out
            rw [hsu.out, nod_splice8, hP.out, hst.out] at this
            exact this
          case measure => simp [intOf]; omega
        · obtain rfl : j = k := by omega
          go_wp2
          go_ret2
          refine ⟨g, rfl, ⟨by omega, ?_⟩, HB0.out.trans (hbel.out.mono (by omega))⟩
          have := HG.out
          rw [HZ2.out] at this
          exact this
end Go.Proofs.YtnjlganofjkpfaaGreat

/-
  Layer 7's Same, and the library's Equal and HasPrefix that it and Read call.
-/
namespace Go.Proofs.YtnjlganofjkpfaaGreat
open Go.RowKit
set_option linter.unusedVariables false
set_option linter.unusedSimpArgs false

set_option maxRecDepth 100000 in
set_option maxHeartbeats 400000 in
theorem nodEqual_any (A1 : Option Addr) (n1 c1 : Nat) (l1 : List UInt8) (A2 : Option Addr) (n2 c2 : Nat) (l2 : List UInt8) (w : World) (h1 : Bytes8 w A1 n1 c1 l1) (h2 : Bytes8 w A2 n2 c2 l2) (r : Bool) (hr : decide (l1 = l2) = r) :
    Calls Tryz.prog 101 #[.slice A1 n1 c1, .slice A2 n2 c2] w fun e w' => e = .returned (.bool r) ∧ w = w' := by
  have cv1 := run_str h1
  have cv2 := run_str h2
  clear h1 h2
  go_enter Tryz.func101, Tryz.ntmps101
  go_wp2
  go_ret
  exact ⟨ret_bool (by rw [← hr, Bool.eq_iff_iff]; simp), rfl⟩

set_option maxRecDepth 100000 in
set_option maxHeartbeats 400000 in
theorem HasPrefix_any (A1 : Option Addr) (n1 c1 : Nat) (l1 : List UInt8) (A2 : Option Addr) (n2 c2 : Nat) (l2 : List UInt8) (w : World) (h1 : Bytes8 w A1 n1 c1 l1) (h2 : Bytes8 w A2 n2 c2 l2) (hl : n2 ≤ n1) (r : Bool) (hr : decide (l1.take n2 = l2) = r) :
    Calls Tryz.prog 91 #[.slice A1 n1 c1, .slice A2 n2 c2] w fun e w' => e = .returned (.bool r) ∧ w = w' := by
  have hcut : Bytes8 w A1 n2 c1 (l1.take n2) := ⟨by rw [List.length_take, h1.len]; omega, Nat.le_trans hl h1.cap, h1.most, by rw [← u8s_take]; exact h1.row.take _⟩
  have E := Lib.hid (fun c (hc : c = c1) => hc ▸ nodEqual_any A1 n2 c1 (l1.take n2) A2 n2 c2 l2 w hcut h2 r hr)
  have hn1 := h1.le
  have hc1 := h1.cap
  have hm1 := h1.most
  clear h1 h2 hcut
  go_enter Tryz.func91, Tryz.ntmps91
  go_wp2_with (go_at_call 101; (with_reducible refine (E.out _ rfl).mono ?_); rintro e w' ⟨rfl, rfl⟩)
  go_ret
  exact ⟨rfl, rfl⟩

end Go.Proofs.YtnjlganofjkpfaaGreat

/-
  Layer 7's Same.
-/
namespace Go.Proofs.YtnjlganofjkpfaaGreat
open Go.RowKit
set_option linter.unusedVariables false
set_option linter.unusedSimpArgs false

/-- two nodes in blocks p and p + 1, and all below p as it was -/
structure Two7 (w0 w : World) (p : Nat) (a b : Nod) (sa1 sa2 sb1 sb2 : Value) : Prop where
  fst : NodAt w p a.tree a.leaf sa1 sa2
  snd : NodAt w (p + 1) b.tree b.leaf sb1 sb2
  bel : Below p w0 w
theorem Two7.later {w0 w w' : World} {p : Nat} {a b : Nod} {sa1 sa2 sb1 sb2 : Value} (h : Two7 w0 w p a b sa1 sa2 sb1 sb2) (hb : Below w.heap.size w w') : Two7 w0 w' p a b sa1 sa2 sb1 sb2 :=
  ⟨h.fst.later hb, h.snd.later hb, h.bel.trans (hb.mono (Nat.le_of_lt (block_lt h.fst)))⟩
theorem two_nodes (w : World) (a b : Nod) (sa1 sa2 sb1 sb2 : Value) : Two7 w ((w.alloc (.cells #[.int .i64 a.tree, .bool a.leaf, sa1, sa2] 70)).alloc (.cells #[.int .i64 b.tree, .bool b.leaf, sb1, sb2] 70)) w.heap.size a b sa1 sa2 sb1 sb2 := by
  have h1 := NodAt.new w a.tree a.leaf sa1 sa2
  have h2 := NodAt.new (w.alloc (.cells #[.int .i64 a.tree, .bool a.leaf, sa1, sa2] 70)) b.tree b.leaf sb1 sb2
  have hs : (w.alloc (.cells #[.int .i64 a.tree, .bool a.leaf, sa1, sa2] 70)).heap.size = w.heap.size + 1 := by simp
  rw [hs] at h2
  have b1 : Below w.heap.size w (w.alloc (.cells #[.int .i64 a.tree, .bool a.leaf, sa1, sa2] 70)) := (Below.refl _ _).alloc (Nat.le_refl _) _
  have b2 : Below (w.alloc (.cells #[.int .i64 a.tree, .bool a.leaf, sa1, sa2] 70)).heap.size (w.alloc (.cells #[.int .i64 a.tree, .bool a.leaf, sa1, sa2] 70)) ((w.alloc (.cells #[.int .i64 a.tree, .bool a.leaf, sa1, sa2] 70)).alloc (.cells #[.int .i64 b.tree, .bool b.leaf, sb1, sb2] 70)) := (Below.refl _ _).alloc (Nat.le_refl _) _
  exact ⟨h1.later b2, h2, b1.trans (b2.mono (by omega))⟩

end Go.Proofs.YtnjlganofjkpfaaGreat
