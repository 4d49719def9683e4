/-
  Layer 7's Read: what its loop keeps.
-/
import Derived.Test.YtebcbaejpebpfaaNodG
import Derived.Test.YtebcbaejpebpfaaMemF
import Derived.WalkSmall
import Derived.BigQuiet
namespace Go.Proofs.Ytebcbaejpebpfaa
open Go.RowKit
set_option linter.unusedVariables false
set_option linter.unusedSimpArgs false

theorem sub_bytes {w : World} {b off n c : Nat} {l : List UInt8} (h : Bytes8 w (some ⟨b, off, none⟩) n c l) (i m c' : Nat) (hi : i + m ≤ n) (hm : m ≤ c') (hc : c' ≤ 9223372036854775807) : Bytes8 w (some ⟨b, off + i, none⟩) m c' ((l.drop i).take m) := by
  refine ⟨by rw [List.length_take, List.length_drop, h.len]; omega, hm, hc, ?_⟩
  have := (h.row.drop i).take m
  simp only [Option.map_some, Addr.add_lit] at this
  rwa [u8s_drop, u8s_take] at this

theorem nod_own_other {w w' : World} {base : Nat} {e : TypeId} {v : Value} {n : Nat} {xs : List Value} (h : w.ownsRow base e 1 v n xs) (hk : ∀ k, v.ownBlock = some k → w'.heap[k]? = w.heap[k]?) : w'.ownsRow base e 1 v n xs := by
  refine ⟨h.1, ?_⟩
  rcases h.2 with hn | ⟨g, cap, cur, hv, hg, hh, rest⟩
  · exact .inl hn
  · refine .inr ⟨g, cap, cur, hv, hg, (hk g ?_).trans hh, rest⟩
    rw [hv]
    rfl

/-- what the loop keeps: i keys and j values so far -/
structure LpN (w0 w : World) (tree : Int) (leaf : Bool) (i : Nat) (Ak : Option Addr) (ck : Nat) (j : Nat) (Av : Option Addr) (cv : Nat) (ks : List Int) (vs : List (List UInt8)) : Prop where
  zero : NodAt w w0.heap.size 0 false (.slice none 0 0) (.slice none 0 0)
  node : NodAt w (w0.heap.size + 1) tree leaf (.slice Ak i ck) (.slice Av j cv)
  bel : Below w0.heap.size w0 w
  ok : w.ownsRow (w0.heap.size + 2) 3 1 (.slice Ak i ck) i (i64s ks)
  ov : w.ownsRow (w0.heap.size + 2) 9 1 (.slice Av j cv) j (strV vs)

section
variable {w0 w w' : World} {tree : Int} {leaf : Bool} {i j ck cv : Nat} {Ak Av : Option Addr} {ks : List Int} {vs : List (List UInt8)}

theorem LpN.low (h : LpN w0 w tree leaf i Ak ck j Av cv ks vs) : w0.heap.size + 2 ≤ w.heap.size := by have := block_lt h.node; omega
theorem LpN.later (h : LpN w0 w tree leaf i Ak ck j Av cv ks vs) (hb : Below w.heap.size w w') : LpN w0 w' tree leaf i Ak ck j Av cv ks vs :=
  ⟨h.zero.later hb, h.node.later hb, h.bel.trans (hb.mono h.bel.size), own_kept h.ok (fun k _ hk => hb.block k hk), own_kept h.ov (fun k _ hk => hb.block k hk)⟩
theorem RdN.loop (h : RdN w0 w tree leaf) : LpN w0 w tree leaf 0 none 0 0 none 0 [] [] := ⟨h.zero, h.node, h.bel, World.ownsRow_nil _ _ _ _, World.ownsRow_nil _ _ _ _⟩

theorem LpN.apart (h : LpN w0 w tree leaf i Ak ck j Av cv ks vs) (g : Nat) (hk : (Value.slice Ak i ck).ownBlock = some g) : (Value.slice Av j cv).ownBlock ≠ some g := fun hv => by
  obtain ⟨_, c1, h1⟩ := own_apart h.ok g hk
  obtain ⟨_, c2, h2⟩ := own_apart h.ov g hv
  rw [h1] at h2
  injection h2 with h2
  injection h2 with _ h3 _
  exact absurd h3 (by decide)

/-- one more key -/
theorem LpN.addKey (h : LpN w0 w tree leaf i Ak ck j Av cv ks vs) {v' : Value} {key : Int} (hown : w'.ownsRow (w0.heap.size + 2) 3 1 v' (i + 1) (i64s ks ++ [.int .i64 key])) (hg : w.grownBy w' (Value.slice Ak i ck).ownBlock) :
    ∃ Ak' ck', v' = .slice Ak' (i + 1) ck' ∧ NodAt w' (w0.heap.size + 1) tree leaf (.slice Ak i ck) (.slice Av j cv) ∧ LpN w0 (w'.setCell ⟨w0.heap.size + 1, 2, none⟩ (.slice Ak' (i + 1) ck')) tree leaf (i + 1) Ak' ck' j Av cv (ks ++ [key]) vs := by
  obtain ⟨Ak', ck', rfl, _, _⟩ := ownsRow_form hown
  have hlow := h.low
  have keep : ∀ g, g < w0.heap.size + 2 → w'.heap[g]? = w.heap[g]? := fun g hlt => hg.block g (by omega) (fun e => by have := (own_apart h.ok g e.symm).1; omega)
  have hn : NodAt w' (w0.heap.size + 1) tree leaf (.slice Ak i ck) (.slice Av j cv) := (keep _ (by omega)).trans h.node
  refine ⟨Ak', ck', rfl, hn, ?_, ?_, ?_, ?_, ?_⟩
  · unfold NodAt
    rw [heap_setCell_other _ _ w0.heap.size _ (by simp)]
    exact (keep _ (by omega)).trans h.zero
  · unfold NodAt
    rw [heap_setCell_same _ _ 2 _ _ _ hn]
    rfl
  · refine Below.setCell ?_ (p := ⟨w0.heap.size + 1, 2, none⟩) (by simp) _
    exact h.bel.trans ⟨hg.os, hg.tape, hg.output, hg.size, fun k hk => keep k (by omega)⟩
  · have e : i64s (ks ++ [key]) = i64s ks ++ [.int .i64 key] := i64s_append _ _
    rw [e]
    refine nod_own_other hown fun k hk => ?_
    have := (own_apart hown k hk).1
    exact heap_setCell_other _ _ _ _ (by simp; omega)
  · refine nod_own_other h.ov fun k hk => ?_
    have h1 := own_apart h.ov k hk
    rw [heap_setCell_other _ _ _ _ (by simp; omega)]
    obtain ⟨hb, cur, hc⟩ := h1
    exact hg.block k (block_lt hc) (fun e => h.apart k e.symm hk)

/-- one more value -/
theorem LpN.addVal (h : LpN w0 w tree leaf i Ak ck j Av cv ks vs) {v' : Value} {s : List UInt8} (hown : w'.ownsRow (w0.heap.size + 2) 9 1 v' (j + 1) (strV vs ++ [.string ⟨s.toArray⟩])) (hg : w.grownBy w' (Value.slice Av j cv).ownBlock) :
    ∃ Av' cv', v' = .slice Av' (j + 1) cv' ∧ NodAt w' (w0.heap.size + 1) tree leaf (.slice Ak i ck) (.slice Av j cv) ∧ LpN w0 (w'.setCell ⟨w0.heap.size + 1, 3, none⟩ (.slice Av' (j + 1) cv')) tree leaf i Ak ck (j + 1) Av' cv' ks (vs ++ [s]) := by
  obtain ⟨Av', cv', rfl, _, _⟩ := ownsRow_form hown
  have hlow := h.low
  have keep : ∀ g, g < w0.heap.size + 2 → w'.heap[g]? = w.heap[g]? := fun g hlt => hg.block g (by omega) (fun e => by have := (own_apart h.ov g e.symm).1; omega)
  have hn : NodAt w' (w0.heap.size + 1) tree leaf (.slice Ak i ck) (.slice Av j cv) := (keep _ (by omega)).trans h.node
  refine ⟨Av', cv', rfl, hn, ?_, ?_, ?_, ?_, ?_⟩
  · unfold NodAt
    rw [heap_setCell_other _ _ w0.heap.size _ (by simp)]
    exact (keep _ (by omega)).trans h.zero
  · unfold NodAt
    rw [heap_setCell_same _ _ 3 _ _ _ hn]
    rfl
  · refine Below.setCell ?_ (p := ⟨w0.heap.size + 1, 3, none⟩) (by simp) _
    exact h.bel.trans ⟨hg.os, hg.tape, hg.output, hg.size, fun k hk => keep k (by omega)⟩
  · refine nod_own_other h.ok fun k hk => ?_
    have h1 := own_apart h.ok k hk
    rw [heap_setCell_other _ _ _ _ (by simp; omega)]
    obtain ⟨hb, cur, hc⟩ := h1
    exact hg.block k (block_lt hc) (fun e => h.apart k hk e.symm)
  · have e : strV (vs ++ [s]) = strV vs ++ [.string ⟨s.toArray⟩] := strV_append _ _
    rw [e]
    refine nod_own_other hown fun k hk => ?_
    have := (own_apart hown k hk).1
    exact heap_setCell_other _ _ _ _ (by simp; omega)

/-- the node that has been read -/
theorem LpN.finish (h : LpN w0 w tree leaf i Ak ck i Av cv ks vs) (ht : i64b tree) (hk : ∀ k ∈ ks, i64b k) (hv : ∀ v ∈ vs, v.length ≤ 9223372036854775807) (hI : i = ks.length) (v0 v1 v2 v3 : Value) :
    NodIn ((((w.setCell ⟨w0.heap.size, 0, none⟩ v0).setCell ⟨w0.heap.size, 1, none⟩ v1).setCell ⟨w0.heap.size, 2, none⟩ v2).setCell ⟨w0.heap.size, 3, none⟩ v3) ⟨tree, leaf, ks, vs⟩ Ak i ck Av i cv := by
  have keep : ∀ k, w0.heap.size + 2 ≤ k → ((((w.setCell ⟨w0.heap.size, 0, none⟩ v0).setCell ⟨w0.heap.size, 1, none⟩ v1).setCell ⟨w0.heap.size, 2, none⟩ v2).setCell ⟨w0.heap.size, 3, none⟩ v3).heap[k]? = w.heap[k]? := fun k hk => by
    rw [heap_setCell_other _ _ _ _ (by simp; omega), heap_setCell_other _ _ _ _ (by simp; omega), heap_setCell_other _ _ _ _ (by simp; omega), heap_setCell_other _ _ _ _ (by simp; omega)]
  have o1 := own_kept h.ok (fun k hk _ => keep k hk)
  have o2 := own_kept h.ov (fun k hk _ => keep k hk)
  obtain ⟨A1, c1, e1, h1⟩ := Ints.of_own o1
  obtain ⟨A2, c2, e2, h2⟩ := Strs.of_own o2
  injection e1 with e1 _ e3
  injection e2 with e2 _ e4
  subst e1; subst e2; subst e3; subst e4
  exact ⟨h1, h2, ht, hk, hv⟩
end

/-! ### what the loop of Read finds -/
def keysR (l : List UInt8) : List Nat := (List.range (cntR l)).map (keyR l)
def valsR (l : List UInt8) : List (List UInt8) := (List.range (cntR l)).map (valR l)
def intsR (l : List UInt8) : List Int := (keysR l).map fun k : Nat => (k : Int)
theorem keysR_len (l : List UInt8) : (keysR l).length = cntR l := by simp [keysR]
theorem intsR_len (l : List UInt8) : (intsR l).length = cntR l := by simp [intsR, keysR]
theorem valsR_len (l : List UInt8) : (valsR l).length = cntR l := by simp [valsR]
theorem nodR_parts (l : List UInt8) : nodR l = ⟨treeR l, leafR l, intsR l, valsR l⟩ := by
  simp only [nodR, intsR, keysR, valsR, List.map_map]
  rfl
theorem readNE_form {l : List UInt8} (h : formN l = true) : readNE l = keyErr (-1) (keysR l) := by
  rw [readNE, if_pos h]; rfl
theorem readNE_bad {l : List UInt8} (h : ¬ formN l = true) : readNE l = 7 ∧ readN l = Nod.zero := by
  have : readNE l = 7 := by rw [readNE, if_neg h]
  exact ⟨this, by rw [readN, if_neg (by rw [this]; omega)]⟩

theorem keysR_at {l : List UInt8} {k : Nat} (hk : k < cntR l) : (keysR l)[k]'(by rw [keysR_len]; exact hk) = keyR l k := by simp [keysR]
theorem intsR_at {l : List UInt8} {k : Nat} (hk : k < cntR l) : (intsR l).take (k + 1) = (intsR l).take k ++ [(keyR l k : Int)] := by
  rw [List.take_succ_eq_append_getElem (by rw [intsR_len]; exact hk)]
  simp [intsR, keysR]
theorem valsR_at {l : List UInt8} {k : Nat} (hk : k < cntR l) : (valsR l).take (k + 1) = (valsR l).take k ++ [valR l k] := by
  rw [List.take_succ_eq_append_getElem (by rw [valsR_len]; exact hk)]
  simp [valsR]

/-- the loop's test of key k -/
theorem key_test {l : List UInt8} {k : Nat} (hk : k < cntR l) (h0 : keyErr (-1) ((keysR l).take k) = 0) :
    keyErr (-1) ((keysR l).take (k + 1)) = followsE (keyR l k) (prevK (-1) (intsR l) k + 1) ∧ -1 ≤ prevK (-1) (intsR l) k ∧ prevK (-1) (intsR l) k ≤ maxK ∧ prevK (-1) (intsR l) (k + 1) = (keyR l k : Int) := by
  have hkl : k < (keysR l).length := by rw [keysR_len]; exact hk
  have hki : k < (intsR l).length := by rw [intsR_len]; exact hk
  have hs := keyErr_step hkl h0
  rw [keysR_at hk] at hs
  have hu := keyErr_up.1 h0
  rw [List.map_take] at hu
  have hb := prevK_bd (l := intsR l) (Nat.le_of_lt hki) hu
  refine ⟨?_, hb.1, hb.2, ?_⟩
  · rw [hs]
    change (if maxK < (keyR l k : Int) then (2 : Int) else if (keyR l k : Int) ≤ prevK (-1) (intsR l) k then 8 else 0) = followsE (keyR l k) (prevK (-1) (intsR l) k + 1)
    unfold followsE maxK
    by_cases c1 : (281474976710655 : Int) < (keyR l k : Int)
    · rw [if_pos c1, if_pos (show (keyR l k : Int) < 0 ∨ (281474976710655 : Int) < (keyR l k : Int) from .inr c1)]
    · rw [if_neg c1, if_neg (show ¬ ((keyR l k : Int) < 0 ∨ (281474976710655 : Int) < (keyR l k : Int)) by omega)]
      by_cases c2 : (keyR l k : Int) ≤ prevK (-1) (intsR l) k
      · rw [if_pos c2, if_pos (show (keyR l k : Int) < prevK (-1) (intsR l) k + 1 by omega)]
      · rw [if_neg c2, if_neg (show ¬ (keyR l k : Int) < prevK (-1) (intsR l) k + 1 by omega)]
  · rw [prevK_succ hki]
    simp [intsR, keysR]

theorem key_end {l : List UInt8} {k : Nat} {e : Int} (hf : formN l = true) (h : keyErr (-1) ((keysR l).take (k + 1)) = e) (he : e ≠ 0) : readNE l = e ∧ readN l = Nod.zero := by
  have : readNE l = e := by rw [readNE_form hf, keyErr_take (k + 1) (by rw [h]; exact he), h]
  exact ⟨this, by rw [readN, if_neg (by rw [this]; exact he)]⟩

theorem Width_q (tree : Int) (leaf : Bool) (w : World) (r : Nat) (hr : widN tree leaf = r) : Calls Try.prog 15 #[.int .i64 tree, .bool leaf] w fun e w' => e = .returned (.int .i64 (r : Int)) ∧ w' = w :=
  (Width_any tree leaf w r hr).mono fun _ _ h => ⟨h.1, h.2.symm⟩
theorem Max_q (tree : Int) (leaf : Bool) (w : World) (r : Nat) (hr : capN (widN tree leaf) = r) : Calls Try.prog 17 #[.int .i64 tree, .bool leaf] w fun e w' => e = .returned (.int .i64 (r : Int)) ∧ w' = w :=
  (Max_any tree leaf w r hr).mono fun _ _ h => ⟨h.1, h.2.symm⟩

/-- Get of a key in Read -/
theorem rd_key {w : World} {b off c : Nat} {l : List UInt8} (hB : Bytes8 w (some ⟨b, off, none⟩) 244 c l) (mx : Nat) (hmx : mx ≤ 18) (k : Nat) (hk : k < mx) (c' : Nat) (hc : 8 * mx ≤ c') (hc2 : c' ≤ 9223372036854775807) (W : World) (hb : Below w.heap.size w W) :
    Calls Try.prog 28 #[.slice (some ⟨b, off + 12, none⟩) (8 * mx : Nat) c', .int .i64 (8 * k : Int), .int .i64 8] W fun e w' => Below W.heap.size W w' ∧ (keyR l k < 9223372036854775808 → e = .returned (.tuple #[.int .i64 (keyR l k : Int), .int .i64 0])) ∧ (9223372036854775808 ≤ keyR l k → e = .returned (.tuple #[.int .i64 0, .int .i64 2])) := by
  have hS := sub_bytes (hB.below hb) 12 (8 * mx) c' (by omega) hc hc2
  have g := get_in (l := (l.drop 12).take (8 * mx)) (wd := 8) (8 * k) (by decide) (by have := hS.len; rw [this]; change 8 * k + 8 ≤ 8 * mx; omega)
  have e : (((l.drop 12).take (8 * mx)).drop (8 * k)).take (8 : Int).toNat = (l.drop (12 + 8 * k)).take 8 := by
    change (((l.drop 12).take (8 * mx)).drop (8 * k)).take 8 = _
    rw [List.drop_take, List.take_take, List.drop_drop, Nat.min_eq_left (by omega)]
  rw [e] at g
  refine (Get_any _ _ c' _ (8 * k : Int) 8 W hS (by omega)).mono ?_
  rintro e w' ⟨rfl, hb⟩
  refine ⟨hb, fun h => ?_, fun h => ?_⟩
  · have := g.1 h
    rw [show ((8 * k : Nat) : Int) = 8 * (k : Int) by omega] at this
    rw [this.1, this.2]; rfl
  · have := g.2 h
    rw [show ((8 * k : Nat) : Int) = 8 * (k : Int) by omega] at this
    rw [this.1, this.2]


/-- Zero of what is left of the keys, and of the values -/
theorem rd_zk {w : World} {b off c : Nat} {l : List UInt8} {tree : Int} {leaf : Bool} (hB : Bytes8 w (some ⟨b, off, none⟩) 244 c l) (mx : Nat) (hm : capR l = mx) (h18 : mx ≤ 18) (hc : cntR l ≤ mx) (r : Bool) (hr : zkB l = r) (W : World) (o m c' : Nat) (hW : RdN w W tree leaf) (ho : o = off + (12 + 8 * cntR l)) (hmm : m = 8 * mx - 8 * cntR l) (hmc : m ≤ c') (hc' : c' ≤ 9223372036854775807) :
    Calls Try.prog 30 #[.slice (some ⟨b, o, none⟩) m c'] W fun e w' => e = .returned (.bool r) ∧ W = w' := by
  subst ho; subst hmm
  have hS := sub_bytes (hB.below hW.bel) (12 + 8 * cntR l) (8 * mx - 8 * cntR l) c' (by omega) hmc hc'
  exact Zero_any _ _ _ _ W hS r (by rw [← hr, zkB, hm])

theorem rd_zv {w : World} {b off c : Nat} {l : List UInt8} {tree : Int} {leaf : Bool} (hB : Bytes8 w (some ⟨b, off, none⟩) 244 c l) (wd mx : Nat) (hw : widR l = wd) (hm : capR l = mx) (hfit : 12 + 8 * mx + wd * cntR l ≤ 244) (r : Bool) (hr : zvB l = r) (W : World) (o m c' : Nat) (hW : RdN w W tree leaf) (ho : o = off + (12 + 8 * mx + wd * cntR l)) (hmm : m = 244 - (12 + 8 * mx + wd * cntR l)) (hmc : m ≤ c') (hc' : c' ≤ 9223372036854775807) :
    Calls Try.prog 30 #[.slice (some ⟨b, o, none⟩) m c'] W fun e w' => e = .returned (.bool r) ∧ W = w' := by
  subst ho; subst hmm
  have hS := sub_bytes (hB.below hW.bel) (12 + 8 * mx + wd * cntR l) (244 - (12 + 8 * mx + wd * cntR l)) c' (by omega) hmc hc'
  exact Zero_any _ _ _ _ W hS r (by rw [← hr, zvB, hm, hw, List.take_of_length_le (by rw [List.length_drop, hB.len]; exact Nat.le_refl _)])

theorem valR_bytes {w : World} {b off c : Nat} {l : List UInt8} (hB : Bytes8 w (some ⟨b, off, none⟩) 244 c l) (wd mx : Nat) (hw : widR l = wd) (hm : capR l = mx) (k : Nat) (hfit : 12 + 8 * mx + wd * k + wd ≤ 244) (W : World) (o m c' : Nat) (hb : Below w.heap.size w W) (ho : o = off + (12 + 8 * mx + wd * k)) (hmm : m = wd) (hmc : m ≤ c') (hc' : c' ≤ 9223372036854775807) :
    Bytes8 W (some ⟨b, o, none⟩) m c' (valR l k) := by
  subst ho; subst hmm
  have := sub_bytes (hB.below hb) (12 + 8 * mx + m * k) m c' (by omega) hmc hc'
  rwa [valR, hm, hw]

theorem key_all {l : List UInt8} (hf : formN l = true) (h : keyErr (-1) (keysR l) = 0) : readNE l = 0 ∧ readN l = ⟨treeR l, leafR l, intsR l, valsR l⟩ := by
  have h0 : readNE l = 0 := by rw [readNE_form hf, h]
  exact ⟨h0, by rw [readN, if_pos h0, nodR_parts]⟩

theorem intsR_bd {l : List UInt8} (hf : readNE l = 0) : ∀ k ∈ intsR l, i64b k := by
  intro k hk
  have := upFrom_bounds (rightN_iff.1 (readN_right hf)).2.2.2.2.1 k (by rw [nodR_parts]; exact hk)
  simp only [maxK] at this
  simp only [i64b]; omega
theorem valsR_bd {l : List UInt8} (hf : readNE l = 0) : ∀ v ∈ valsR l, v.length ≤ 9223372036854775807 := by
  intro v hv
  have h1 := rightN_iff.1 (readN_right hf)
  have h2 := h1.2.2.2.1 v (by rw [nodR_parts]; exact hv)
  rw [h2]
  rcases widN_cases (nodR l).tree (nodR l).leaf with ⟨a, _⟩ | ⟨a, _⟩ | ⟨a, _⟩ | ⟨a, _⟩ | ⟨a, _⟩ <;> rw [a] <;> omega

/-- what Read answers -/
def RdPost (w : World) (l : List UInt8) (e : Ending) (w' : World) : Prop := ∃ A n c A2 n2 c2, e = .returned (.tuple #[nodV (readN l) A n c A2 n2 c2, .int .i64 (readNE l)]) ∧ NodIn w' (readN l) A n c A2 n2 c2 ∧ Below w.heap.size w w'
/-- the end of Read's loop -/
theorem rdPost_good {w w' : World} {l : List UInt8} {Ak : Option Addr} {ck : Nat} {Av : Option Addr} {cv cnt : Nat} (hf : formN l = true) (h : keyErr (-1) (keysR l) = 0) (hc : cnt = cntR l) (hL : LpN w w' (treeR l) (leafR l) cnt Ak ck cnt Av cv (intsR l) (valsR l)) :
    RdPost w l (.returned (.tuple #[.agg #[.int .i64 (treeR l), .bool (leafR l), .slice Ak cnt ck, .slice Av cnt cv], .int .i64 0])) ((((w'.setCell ⟨w.heap.size, 0, none⟩ (.int .i64 (treeR l))).setCell ⟨w.heap.size, 1, none⟩ (.bool (leafR l))).setCell ⟨w.heap.size, 2, none⟩ (.slice Ak cnt ck)).setCell ⟨w.heap.size, 3, none⟩ (.slice Av cnt cv)) := by
  obtain ⟨h0, h1⟩ := key_all hf h
  refine ⟨Ak, cnt, ck, Av, cnt, cv, by rw [h0, h1]; rfl, ?_, below_store7 hL.bel (Nat.le_refl _) _ _ _ _⟩
  rw [h1]
  exact hL.finish (by simp only [i64b, treeR]; have := UInt8.toNat_lt (l.getD 1 0); omega) (intsR_bd h0) (valsR_bd h0) (by rw [hc, intsR_len]) _ _ _ _

theorem rdPost_bad {w w' : World} {l : List UInt8} {x : Int} (h : readNE l = x ∧ readN l = Nod.zero) (hb : Below w.heap.size w w') : RdPost w l (.returned (.tuple #[zeroNode, .int .i64 x])) w' :=
  ⟨none, 0, 0, none, 0, 0, by rw [h.1, h.2, zeroNode_eq], by rw [h.2]; exact NodIn.zero w', hb⟩

end Go.Proofs.Ytebcbaejpebpfaa
