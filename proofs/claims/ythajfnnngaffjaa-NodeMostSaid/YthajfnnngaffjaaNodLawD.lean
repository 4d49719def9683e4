/-
  The walk of NodeMost.
-/
import Derived.Test.YthajfnnngaffjaaNodK
import Derived.Laws.BitsLemmas
import Derived.Deep.OwnRows
namespace Go.Proofs.Ythajfnnngaffjaa
open Go.RowKit
set_option linter.unusedVariables false
set_option linter.unusedSimpArgs false

theorem nod_and24 (n : Int) : bits .and .i64 n 16777215 = n % 16777216 := by
  have hm : (BitVec.ofInt 64 16777215).toNat = 2 ^ 24 - 1 := by decide
  have key : (BitVec.ofInt 64 n &&& BitVec.ofInt 64 16777215).toNat = (n % ((2 ^ 64 : Nat) : Int)).toNat % 2 ^ 24 := by
    rw [BitVec.toNat_and, BitVec.toNat_ofInt, hm, Nat.and_two_pow_sub_one_eq_mod]
  show IntKind.i64.wrap ((BitVec.ofInt 64 n &&& BitVec.ofInt 64 16777215).toNat : Nat) = n % 16777216
  rw [key, IntKind.wrap_i64]
  omega
theorem nod_and16 (n : Int) : bits .and .i64 n 65535 = n % 65536 := by
  have hm : (BitVec.ofInt 64 65535).toNat = 2 ^ 16 - 1 := by decide
  have key : (BitVec.ofInt 64 n &&& BitVec.ofInt 64 65535).toNat = (n % ((2 ^ 64 : Nat) : Int)).toNat % 2 ^ 16 := by
    rw [BitVec.toNat_and, BitVec.toNat_ofInt, hm, Nat.and_two_pow_sub_one_eq_mod]
  show IntKind.i64.wrap ((BitVec.ofInt 64 n &&& BitVec.ofInt 64 65535).toNat : Nat) = n % 65536
  rw [key, IntKind.wrap_i64]
  omega

theorem most_tree (x : Int) : 1 ≤ wrap64 (1 + (wrap64 (x.tmod 5 + 5)).tmod 5) ∧ wrap64 (1 + (wrap64 (x.tmod 5 + 5)).tmod 5) ≤ 5 := by
  have h1 := Int.tmod_lt_of_pos x (show (0 : Int) < 5 by omega)
  have h2 := Int.lt_tmod_of_pos x (show (0 : Int) < 5 by omega)
  generalize x.tmod 5 = y at *
  have e : wrap64 (y + 5) = y + 5 := by unfold wrap64; omega
  rw [e]
  have h3 := Int.tmod_lt_of_pos (y + 5) (show (0 : Int) < 5 by omega)
  have h4 := Int.tmod_nonneg 5 (show 0 ≤ y + 5 by omega)
  generalize (y + 5).tmod 5 = z at *
  unfold wrap64
  omega

theorem most_first (x : Int) : 0 ≤ bits .and .i64 x 16777215 ∧ bits .and .i64 x 16777215 ≤ 16777215 := by rw [nod_and24]; omega
theorem most_gap (x : Int) : 1 ≤ wrap64 (1 + bits .and .i64 x 65535) ∧ wrap64 (1 + bits .and .i64 x 65535) ≤ 65536 := by rw [nod_and16]; unfold wrap64; omega

abbrev zB (n : Nat) : List UInt8 := List.replicate n 0
abbrev zBlock (n : Nat) : Obj := .cells (u8s (zB n)).toArray 5
abbrev zStr (zs : ByteArray) : Obj := .cells #[.string zs] 9

theorem nod_make (n : Nat) (hn : n ≤ 100) (W : World) : (Instr.makeSlice 28 (.int .i64 (n : Int)) (.int .i64 (n : Int))).run Try.prog W = .ok (.slice (some ⟨W.heap.size, 0, none⟩) n n) (W.alloc (.cells (u8s (zB n)).toArray 5)) := by
  have e : madeCells #[Value.int .u8 0] n = (u8s (zB n)).toArray := by
    apply Array.ext'
    rw [zeros_u8]
  rw [← e]
  exact run_make_row' 28 5 (.int .u8 0) 1 Try.underlying28 info_u8 rfl _ _ n (by omega) (by omega) W

/-- the worlds of the region that adds a value -/
theorem most_region {w w7 : World} {tree : Int} {leaf : Bool} {i j ck cv wd : Nat} {Ak Av : Option Addr} {ks : List Int} {vs : List (List UInt8)} (h : MsN w w7 tree leaf i Ak ck j Av cv ks vs) (hw : wd ≤ 100) {zs : ByteArray} (hzs : zs = ⟨(zB wd).toArray⟩) :
    (w7.alloc (zBlock wd)).cell? ⟨w.heap.size, 3, none⟩ = some (.slice Av j cv) ∧ ((w7.alloc (zBlock wd)).alloc (zStr zs)).cell? ⟨w.heap.size, 3, none⟩ = some (.slice Av j cv) ∧
    (convert 28 9 (.slice (some ⟨w7.heap.size, 0, none⟩) wd wd)).run Try.prog (w7.alloc (zBlock wd)).drew = .ok (.string zs) (w7.alloc (zBlock wd)).drew ∧
    MsN w ((w7.alloc (zBlock wd)).alloc (zStr zs)).drew tree leaf i Ak ck j Av cv ks vs ∧ ((w7.alloc (zBlock wd)).alloc (zStr zs)).drew.heap[w7.heap.size + 1]? = some (.cells #[.string zs] 9 (0, 0)) := by
  have b1 : Below w7.heap.size w7 (w7.alloc (zBlock wd)) := (Below.refl _ _).alloc (Nat.le_refl _) _
  have b2 : Below w7.heap.size w7 ((w7.alloc (zBlock wd)).alloc (zStr zs)) := b1.alloc b1.size _
  have hz : Bytes8 (w7.alloc (zBlock wd)).drew (some ⟨w7.heap.size, 0, none⟩) wd wd (zB wd) := ⟨by simp [zB], Nat.le_refl _, by omega, Row.of_block (t := 5) (fr := (0, 0)) (heap_alloc_new w7 (zBlock wd))⟩
  refine ⟨(h.later b1).node.c3, (h.later b2).node.c3, by rw [hzs]; exact run_str hz, h.later b2.drew, ?_⟩
  have := heap_alloc_new (w7.alloc (zBlock wd)) (zStr zs)
  have hs : (w7.alloc (zBlock wd)).heap.size = w7.heap.size + 1 := by simp
  rw [hs] at this
  exact this

theorem mkK_bd {first gap : Int} (hf : 0 ≤ first ∧ first ≤ 16777215) (hg : 1 ≤ gap ∧ gap ≤ 65536) {k : Nat} (hk : k ≤ 19) : ∀ x ∈ mkK first gap k, i64b x := by
  intro x hx
  have := upFrom_bounds (mkK_up hf hg hk) x hx
  simp only [maxK] at this
  simp only [i64b]; omega
theorem mkV_bd {wd k : Nat} (hw : wd ≤ 24) : ∀ v ∈ mkV wd k, v.length ≤ 9223372036854775807 := by
  intro v hv
  simp only [mkV] at hv
  rw [List.eq_of_mem_replicate hv, List.length_replicate]; omega

section
variable {w : World} {T F G : Int} {leaf : Bool} {mx wd : Nat}

theorem ms_put_good (hT : 1 ≤ T ∧ T ≤ 5) (hF : 0 ≤ F ∧ F ≤ 16777215) (hG : 1 ≤ G ∧ G ≤ 65536) (hw : widN T leaf = wd) (hm : capN wd = mx) (hw0 : wd ≠ 0) (h24 : wd ≤ 24) (h18 : mx ≤ 18) (W : World) (Ak : Option Addr) (ck : Nat) (Av : Option Addr) (cv : Nat) (hS : MsN w W T leaf mx Ak ck mx Av cv (mkK F G mx) (mkV wd mx)) :
    Calls Try.prog 9 #[.agg #[.int .i64 T, .bool leaf, .slice Ak mx ck, .slice Av mx cv]] W fun e w' => ∃ g, e = .returned (.tuple #[.slice (some ⟨g, 0, none⟩) 244 244, .int .i64 0]) ∧ MsN w w' T leaf mx Ak ck mx Av cv (mkK F G mx) (mkV wd mx) := by
  have hr : rightN ⟨T, leaf, mkK F G mx, mkV wd mx⟩ = true := by
    have := mk_right (tree := T) (leaf := leaf) (first := F) (gap := G) (by rw [hw]; exact hw0) hF hG
    rw [hw, hm] at this
    exact this
  refine (NPut_good W ⟨T, leaf, mkK F G mx, mkV wd mx⟩ Ak mx ck Av mx cv (hS.nodin (by simp only [i64b]; omega) (mkK_bd hF hG (by omega)) (mkV_bd h24)) hr).mono ?_
  rintro e w' ⟨g, h1, _, h3⟩
  exact ⟨g, h1, hS.later h3⟩

theorem ms_wrong (hw : widN T leaf = wd) (hm : capN wd = mx) (vs : List (List UInt8)) : rightN ⟨T, leaf, mkK F G (mx + 1), vs⟩ = false := by
  have := mk_wrong (tree := T) (leaf := leaf) (first := F) (gap := G) vs
  rwa [hw, hm] at this

theorem ms_put_bad (hT : 1 ≤ T ∧ T ≤ 5) (hF : 0 ≤ F ∧ F ≤ 16777215) (hG : 1 ≤ G ∧ G ≤ 65536) (hw : widN T leaf = wd) (hm : capN wd = mx) (h24 : wd ≤ 24) (h18 : mx ≤ 18) (W : World) (Ak : Option Addr) (ck : Nat) (Av : Option Addr) (cv : Nat) (hS : MsN w W T leaf (mx + 1) Ak ck (mx + 1) Av cv (mkK F G (mx + 1)) (mkV wd (mx + 1))) :
    Calls Try.prog 9 #[.agg #[.int .i64 T, .bool leaf, .slice Ak (mx + 1) ck, .slice Av (mx + 1) cv]] W fun e w' => e = .returned (.tuple #[.slice none 0 0, .int .i64 1]) ∧ MsN w w' T leaf (mx + 1) Ak ck (mx + 1) Av cv (mkK F G (mx + 1)) (mkV wd (mx + 1)) := by
  refine (NPut_bad W ⟨T, leaf, mkK F G (mx + 1), mkV wd (mx + 1)⟩ Ak (mx + 1) ck Av (mx + 1) cv (hS.nodin (by simp only [i64b]; omega) (mkK_bd hF hG (by omega)) (mkV_bd h24)) (ms_wrong hw hm _)).mono ?_
  rintro e w' ⟨h1, h3⟩
  exact ⟨h1, hS.later h3⟩

theorem ms_right_bad (hT : 1 ≤ T ∧ T ≤ 5) (hF : 0 ≤ F ∧ F ≤ 16777215) (hG : 1 ≤ G ∧ G ≤ 65536) (hw : widN T leaf = wd) (hm : capN wd = mx) (h24 : wd ≤ 24) (h18 : mx ≤ 18) (W : World) (Ak : Option Addr) (ck : Nat) (Av : Option Addr) (cv : Nat) (hS : MsN w W T leaf (mx + 1) Ak ck (mx + 1) Av cv (mkK F G (mx + 1)) (mkV wd (mx + 1))) :
    Calls Try.prog 11 #[.agg #[.int .i64 T, .bool leaf, .slice Ak (mx + 1) ck, .slice Av (mx + 1) cv]] W fun e w' => e = .returned (.bool false) ∧ MsN w w' T leaf (mx + 1) Ak ck (mx + 1) Av cv (mkK F G (mx + 1)) (mkV wd (mx + 1)) := by
  refine (Right_any W ⟨T, leaf, mkK F G (mx + 1), mkV wd (mx + 1)⟩ Ak (mx + 1) ck Av (mx + 1) cv (hS.nodin (by simp only [i64b]; omega) (mkK_bd hF hG (by omega)) (mkV_bd h24)) false (ms_wrong hw hm _)).mono ?_
  rintro e w' ⟨h1, h3⟩
  exact ⟨h1, hS.later h3⟩

theorem ms_lives {i j : Nat} {ks : List Int} {vs : List (List UInt8)} (W : World) (Ak : Option Addr) (ck : Nat) (Av : Option Addr) (cv : Nat) (hS : MsN w W T leaf i Ak ck j Av cv ks vs) : Calls Try.prog 8 #[] W fun e w' => e = .returned (.bool true) ∧ Below w.heap.size w w' :=
  (lives7_any W).mono fun e w' ⟨h1, h2⟩ => ⟨h1, (hS.later h2).bel⟩
end

set_option maxRecDepth 100000 in
set_option maxHeartbeats 3200000 in
theorem nodemost_walk (tree0 : Int) (leaf : Bool) (first0 gap0 : Int) (w : World) (ht : -9223372036854775808 ≤ tree0 ∧ tree0 ≤ 9223372036854775807) (hf : -9223372036854775808 ≤ first0 ∧ first0 ≤ 9223372036854775807) (hg : -9223372036854775808 ≤ gap0 ∧ gap0 ≤ 9223372036854775807) :
    Calls Try.prog 6 #[.int .i64 tree0, .bool leaf, .int .i64 first0, .int .i64 gap0] w fun e w' => e = .returned (.bool true) ∧ Below w.heap.size w w' := by
  have HT := Lib.hid (most_tree tree0)
  have HF := Lib.hid (most_first first0)
  have HG := Lib.hid (most_gap gap0)
  clear ht hf hg
  go_enter Try.func6, Try.ntmps6
  go_wp2_with (fail)
  generalize wrap64 (1 + (wrap64 (tree0.tmod 5 + 5)).tmod 5) = T at *
  generalize bits .and .i64 first0 16777215 = F at *
  generalize wrap64 (1 + bits .and .i64 gap0 65535) = G at *
  obtain ⟨hF0, hF1⟩ := HF.out
  obtain ⟨hG0, hG1⟩ := HG.out
  have hw0 : widN T leaf ≠ 0 := by
    rw [widN, if_neg (by have := HT.out; omega)]
    split
    · omega
    · split
      · omega
      · split
        · omega
        · split <;> omega
  have hb : 6 ≤ capN (widN T leaf) ∧ capN (widN T leaf) ≤ 18 ∧ 4 ≤ widN T leaf ∧ widN T leaf ≤ 24 := by
    rcases widN_cases T leaf with ⟨a, b⟩ | ⟨a, b⟩ | ⟨a, b⟩ | ⟨a, b⟩ | ⟨a, b⟩
    · exact absurd a hw0
    all_goals rw [b, a]; omega
  obtain ⟨hb1, hb2, hb3, hb4⟩ := hb
  have MX := Lib.hid (fun W => Max_any T leaf W _ rfl)
  have WD := Lib.hid (fun W => Width_any T leaf W _ rfl)
  have M0 := Lib.hid (MsN.start w T leaf)
  generalize hmx : capN (widN T leaf) = mx at *
  generalize hwd : widN T leaf = wd at *
  have HMX := Lib.hid hmx
  have HWD := Lib.hid hwd
  clear hmx hwd
  go_wp2_with (first
    | (go_at_call 17; (with_reducible refine (MX.out _).mono ?_); rintro e w' ⟨rfl, rfl⟩)
    | (go_at_call 15; (with_reducible refine (WD.out _).mono ?_); rintro e w' ⟨rfl, rfl⟩))
  go_loopw [12] (fun i wr => ∃ k : Nat, k ≤ mx ∧ i = .int .i64 k ∧ Hid (∃ Ak ck Av cv, MsN w wr T leaf k Ak ck k Av cv (mkK F G k) (mkV wd k))) (fun i _ => mx - (intOf i).toNat)
  case atStart => exact ⟨0, by omega, rfl, none, 0, none, 0, M0.out⟩
  case round =>
    clear M0
    obtain ⟨k, hk, rfl, Ak, ck, Av, cv, hS⟩ := hrel
    by_cases hlt : k < mx
    · obtain ⟨y, hy⟩ : ∃ y, y = (k : Int) * G := ⟨_, rfl⟩
      have hyb := mk_mul (gap := G) ⟨hG0, hG1⟩ (k := k) (by omega)
      rw [← hy] at hyb
      obtain ⟨hy0, hy1⟩ := hyb
      have e1 : wrap64 ((k : Int) * G) = y := by rw [← hy]; unfold wrap64; omega
      have hKS : Hid (mkK F G (k + 1) = mkK F G k ++ [F + y]) := by rw [hy]; exact mkK_step F G k
      have hVS := Lib.hid (mkV_step wd k)
      have n2 := hS.node.c2
      clear hy
      go_wp2_with (at_builtin; go_must (refine wpList_append_newG wr rfl (.tmp 56) (.tmp 62) _ rfl (w.heap.size + 1) 3 _ _ 8 Try.underlying22 info_i64 rfl (.slice Ak k ck) _ _ rfl hS.ok hS.low [_] 1 1 rfl rfl (by simp [Value.oneCell']) (by omega) (by omega) ?_); intro v6 w6 ho6 hg6; obtain ⟨Ak', ck', rfl, hn6, hS6⟩ := hS.addKey ho6.out hg6.out; have m2 := hn6.c2; have g2 := Lib.frozen_of_heap hn6 2)
      have n3 := hS6.node.c3
      have HS6 := Lib.hid hS6
      generalize w6.setCell ⟨w.heap.size, 2, none⟩ (.slice Ak' (k + 1) ck') = w7 at *
      clear hS6 hn6 m2 g2 ho6 hg6 n2 hS
      have mk := nod_make wd (by omega) w7.drew
      obtain ⟨zs, hzs⟩ : ∃ zs : ByteArray, zs = ⟨(zB wd).toArray⟩ := ⟨_, rfl⟩
      have hR := most_region (wd := wd) HS6.out (by omega) hzs
      have HZS := Lib.hid hzs
      obtain ⟨n3a, n3b, cvs, hMs, hblk⟩ := hR
      have HMs := Lib.hid hMs
      have HBlk := Lib.hid hblk
      clear hMs hblk hzs
      go_region_law (first
        | (refine step_append_rowG _ rfl (.tmp 66) (.tmp 70) 23 rfl (w.heap.size + 1) 9 1 _ 16 Try.underlying23 info_strvA rfl (by omega) (.slice Av k cv) k _ rfl HMs.out.ov HMs.out.low ⟨w7.heap.size + 1, 0, none⟩ [.string zs] 1 1 rfl rfl (Row.of_block (t := 9) (fr := (0, 0)) HBlk.out) (by simp [Value.oneCell']) (by omega) (by omega) ?_
           intro v8 w8 ho8 hg8
           obtain ⟨Av', cv', rfl, hn8, hS8⟩ := HMs.out.addVal (s := zB wd) (by have := ho8.out; rw [HZS.out] at this; exact this) hg8.out
           have m3 := hn8.c3
           have g3 := Lib.frozen_of_heap hn8 3))
      all_goals go_wp2
      all_goals go_roundw
      all_goals first
        | exact ⟨k + 1, by omega, by go_num, Ak', ck', Av', cv', by rw [hKS.out, hVS.out]; exact hS8⟩
        | (simp [intOf]; omega)
    · obtain rfl : k = mx := by omega
      obtain ⟨y, hy⟩ : ∃ y, y = (k : Int) * G := ⟨_, rfl⟩
      have hyb := mk_mul (gap := G) ⟨hG0, hG1⟩ (k := k) (by omega)
      rw [← hy] at hyb
      obtain ⟨hy0, hy1⟩ := hyb
      have e1 : wrap64 ((k : Int) * G) = y := by rw [← hy]; unfold wrap64; omega
      have hKS : Hid (mkK F G (k + 1) = mkK F G k ++ [F + y]) := by rw [hy]; exact mkK_step F G k
      have hVS := Lib.hid (mkV_step wd k)
      have PG := Lib.hid (ms_put_good (w := w) HT.out HF.out HG.out HWD.out HMX.out hw0 hb4 hb2)
      have PB := Lib.hid (ms_put_bad (w := w) HT.out HF.out HG.out HWD.out HMX.out hb4 hb2)
      have RT := Lib.hid (ms_right_bad (w := w) HT.out HF.out HG.out HWD.out HMX.out hb4 hb2)
      have k0 := hS.node.c0
      have k1 := hS.node.c1
      have k2 := hS.node.c2
      have k3 := hS.node.c3
      clear hy
      go_wp2_with (first
        | (go_at_call 9; (with_reducible refine (PG.out _ _ _ _ _ hS).mono ?_); rintro e w1 ⟨g, rfl, hS1⟩; have n2 := hS1.node.c2)
        | (at_builtin; go_must (refine wpList_append_newG w1 rfl (.tmp 86) (.tmp 92) _ rfl (w.heap.size + 1) 3 _ _ 8 Try.underlying22 info_i64 rfl (.slice Ak k ck) _ _ rfl hS1.ok hS1.low [_] 1 1 rfl rfl (by simp [Value.oneCell']) (by omega) (by omega) ?_); intro v6 w6 ho6 hg6; obtain ⟨Ak', ck', rfl, hn6, hS6⟩ := hS1.addKey ho6.out hg6.out; have m2 := hn6.c2; have g2 := Lib.frozen_of_heap hn6 2))
      have n3 := hS6.node.c3
      have HS6 := Lib.hid hS6
      generalize w6.setCell ⟨w.heap.size, 2, none⟩ (.slice Ak' (k + 1) ck') = w7 at *
      clear hS6 hn6 m2 g2 ho6 hg6 n2 hS1 hS
      have mk := nod_make wd (by omega) w7.drew
      obtain ⟨zs, hzs⟩ : ∃ zs : ByteArray, zs = ⟨(zB wd).toArray⟩ := ⟨_, rfl⟩
      have hR := most_region (wd := wd) HS6.out (by omega) hzs
      have HZS := Lib.hid hzs
      obtain ⟨n3a, n3b, cvs, hMs, hblk⟩ := hR
      have HMs := Lib.hid hMs
      have HBlk := Lib.hid hblk
      clear hMs hblk hzs
      go_region_law (first
        | (refine step_append_rowG _ rfl (.tmp 96) (.tmp 100) 23 rfl (w.heap.size + 1) 9 1 _ 16 Try.underlying23 info_strvA rfl (by omega) (.slice Av k cv) k _ rfl HMs.out.ov HMs.out.low ⟨w7.heap.size + 1, 0, none⟩ [.string zs] 1 1 rfl rfl (Row.of_block (t := 9) (fr := (0, 0)) HBlk.out) (by simp [Value.oneCell']) (by omega) (by omega) ?_
           intro v8 w8 ho8 hg8
           obtain ⟨Av', cv', rfl, hn8, hS8⟩ := HMs.out.addVal (s := zB wd) (by have := ho8.out; rw [HZS.out] at this; exact this) hg8.out
           have m3 := hn8.c3
           have g3 := Lib.frozen_of_heap hn8 3))
      all_goals have hS9 : MsN w (w8.setCell ⟨w.heap.size, 3, none⟩ (.slice Av' (k + 1) cv')) T leaf (k + 1) Ak' ck' (k + 1) Av' cv' (mkK F G (k + 1)) (mkV wd (k + 1)) := by rw [hKS.out, hVS.out]; exact hS8
      all_goals have j0 := hS9.node.c0
      all_goals have j1 := hS9.node.c1
      all_goals have j2 := hS9.node.c2
      all_goals have j3 := hS9.node.c3
      all_goals go_wp2_with (first
        | (go_at_call 9; (with_reducible refine (PB.out _ _ _ _ _ hS9).mono ?_); rintro e wa ⟨rfl, hSa⟩; have a0 := hSa.node.c0; have a1 := hSa.node.c1; have a2 := hSa.node.c2; have a3 := hSa.node.c3)
        | (go_at_call 11; (with_reducible refine (RT.out _ _ _ _ _ hSa).mono ?_); rintro e wb ⟨rfl, hSb⟩)
        | (go_at_call 8; (with_reducible refine (ms_lives _ _ _ _ _ hSb).mono ?_); rintro e wc ⟨rfl, hbc⟩))
      all_goals go_ret
      all_goals exact ⟨rfl, hbc⟩

end Go.Proofs.Ythajfnnngaffjaa
