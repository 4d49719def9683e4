/-
  Layer 7: the reference's Read.
-/
import Derived.Test.YthajfnnngaffjaaNodN
import Derived.Test.YthajfnnngaffjaaNodK
namespace Go.Proofs.Ythajfnnngaffjaa
open Go.RowKit
set_option linter.unusedVariables false
set_option linter.unusedSimpArgs false

set_option maxRecDepth 100000 in
set_option maxHeartbeats 800000 in
theorem refRead_bad (w : World) (A : Option Addr) (n c : Nat) (l : List UInt8) (hB : Bytes8 w A n c l) (hf : formN l = false) : Calls Try.prog 20 #[.slice A n c] w fun e w' => RdPost w l e w' := by
  have hz := NodAt.new w 0 false (.slice none 0 0) (.slice none 0 0)
  have hb : Below w.heap.size w (w.alloc zN) := (Below.refl _ _).alloc (Nat.le_refl _) _
  have FM : Hid (Calls Try.prog 31 #[.slice A n c] (w.alloc zN) fun e w' => e = .returned (.bool false) ∧ Below w.heap.size w w' ∧ NodAt w' w.heap.size 0 false (.slice none 0 0) (.slice none 0 0)) := (form_any _ A n c l (hB.below hb) false hf).mono fun e w' ⟨h1, h2⟩ => ⟨h1, hb.trans (h2.mono hb.size), hz.later h2⟩
  have hE := Lib.hid (readNE_bad (l := l) (by rw [hf]; simp))
  clear hB hf hz hb
  simp only [zN] at FM
  go_enter Try.func20, Try.ntmps20
  go_wp2_with (go_at_call 31; (with_reducible refine (FM.out).mono ?_); rintro e w1 ⟨rfl, hb1, hz1⟩; have z0 := hz1.c0; have z1 := hz1.c1; have z2 := hz1.c2; have z3 := hz1.c3; have y0 := Lib.frozen_of_heap hz1 0; have y1 := Lib.frozen_of_heap hz1 1; have y2 := Lib.frozen_of_heap hz1 2; have y3 := Lib.frozen_of_heap hz1 3)
  refine bodyPost_ret (results_nod Try.results20 _ _ w.heap.size 0 false (.slice none 0 0) (.slice none 0 0) rfl rfl rfl (hz1.store _ _ _ _)) rfl ?_
  exact rdPost_bad hE.out (below_store7 hb1 (Nat.le_refl _) _ _ _ _)

theorem cnt_byte {l : List UInt8} (h : l.length = 244) (hc : cntR l ≤ 18) : ((l.getD 2 0).toNat : Int) = (cntR l : Int) := by
  match l, h with
  | x0 :: x1 :: x2 :: x3 :: r, _ =>
    have e : cntR (x0 :: x1 :: x2 :: x3 :: r) = x2.toNat + 256 * (x3.toNat + 256 * 0) := rfl
    rw [e] at hc ⊢
    have e2 : (x0 :: x1 :: x2 :: x3 :: r).getD 2 0 = x2 := rfl
    rw [e2]
    omega

/-- Get of a key in the reference's Read -/
theorem rf_key {w : World} {A : Option Addr} {c : Nat} {l : List UInt8} (hB : Bytes8 w A 244 c l) (k : Nat) (hk : k < 18) (W : World) (hb : Below w.heap.size w W) :
    Calls Try.prog 32 #[.slice A 244 c, .int .i64 (12 + 8 * k : Int), .int .i64 8] W fun e w' => W = w' ∧ (keyR l k < 9223372036854775808 → e = .returned (.tuple #[.int .i64 (keyR l k : Int), .int .i64 0])) ∧ (9223372036854775808 ≤ keyR l k → e = .returned (.tuple #[.int .i64 0, .int .i64 2])) := by
  have g := get_key (b := l) k (by rw [hB.len]; omega)
  refine (refGet_any A 244 c l (12 + 8 * k : Int) 8 W (hB.below hb) (by omega)).mono ?_
  rintro e w' ⟨rfl, rfl⟩
  refine ⟨rfl, fun h => ?_, fun h => ?_⟩
  · have := g.1 h
    rw [show ((12 + 8 * k : Nat) : Int) = 12 + 8 * (k : Int) by omega] at this
    rw [this.1, this.2]
  · have := g.2 h
    rw [show ((12 + 8 * k : Nat) : Int) = 12 + 8 * (k : Int) by omega] at this
    rw [this.1, this.2]

theorem MsN.max7 {w0 w : World} {tree : Int} {leaf : Bool} {i j ck cv : Nat} {Ak Av : Option Addr} {ks : List Int} {vs : List (List UInt8)} (ht : i64b tree) (mx : Nat) (hm : capN (widN tree leaf) = mx) (h : MsN w0 w tree leaf i Ak ck j Av cv ks vs) :
    Calls Try.prog 18 #[.int .i64 tree, .bool leaf] w fun e w' => e = .returned (.int .i64 (mx : Int)) ∧ MsN w0 w' tree leaf i Ak ck j Av cv ks vs :=
  (refMax_any tree leaf w mx hm ht).mono fun e w' ⟨h1, h2⟩ => ⟨h1, h.later h2⟩
theorem MsN.width7 {w0 w : World} {tree : Int} {leaf : Bool} {i j ck cv : Nat} {Ak Av : Option Addr} {ks : List Int} {vs : List (List UInt8)} (ht : i64b tree) (wd : Nat) (hw : widN tree leaf = wd) (h : MsN w0 w tree leaf i Ak ck j Av cv ks vs) :
    Calls Try.prog 16 #[.int .i64 tree, .bool leaf] w fun e w' => e = .returned (.int .i64 (wd : Int)) ∧ MsN w0 w' tree leaf i Ak ck j Av cv ks vs :=
  (refWidth_any tree leaf w wd hw ht).mono fun e w' ⟨h1, h2⟩ => ⟨h1, h.later h2⟩

theorem MsN.last {w0 w : World} {tree : Int} {leaf : Bool} {k j ck cv : Nat} {Ak Av : Option Addr} {ks : List Int} {vs : List (List UInt8)} (h : MsN w0 w tree leaf (k + 1) Ak ck j Av cv (ks.take (k + 1)) vs) (hk : k + 1 ≤ ks.length) :
    ∃ bk ok, Ak = some ⟨bk, ok, none⟩ ∧ w.cell? ⟨bk, ok + k, none⟩ = some (.int .i64 (prevK (-1) ks (k + 1))) := by
  obtain ⟨A1, c1, e1, h1⟩ := Ints.of_own h.ok
  injection e1 with e1 _ e3
  subst e1; subst e3
  obtain ⟨bk, ok, rfl, _, hc⟩ := h1.row.lit (by rw [i64s_length, List.length_take]; omega)
  refine ⟨bk, ok, rfl, ?_⟩
  have := hc k _ (i64s_at (ks.take (k + 1)) k (by rw [List.length_take]; omega))
  rw [this]
  have e : (ks.take (k + 1))[k]'(by rw [List.length_take]; omega) = prevK (-1) ks (k + 1) := by
    rw [List.getElem_take, prevK_succ (by omega)]
  rw [e]

/-- the zeroed result, all below it as it was, and the node that is made -/
theorem ms_finish {w w1 wr : World} {l : List UInt8} {Ak : Option Addr} {ck : Nat} {Av : Option Addr} {cv cnt : Nat} (hf : formN l = true) (h : keyErr (-1) (keysR l) = 0) (hc : cnt = cntR l) (hb1 : Below w.heap.size w w1) (hz : w.heap.size < w1.heap.size) (hL : MsN w1 wr (treeR l) (leafR l) cnt Ak ck cnt Av cv (intsR l) (valsR l)) :
    RdPost w l (.returned (.tuple #[.agg #[.int .i64 (treeR l), .bool (leafR l), .slice Ak cnt ck, .slice Av cnt cv], .int .i64 0])) ((((wr.setCell ⟨w.heap.size, 0, none⟩ (.int .i64 (treeR l))).setCell ⟨w.heap.size, 1, none⟩ (.bool (leafR l))).setCell ⟨w.heap.size, 2, none⟩ (.slice Ak cnt ck)).setCell ⟨w.heap.size, 3, none⟩ (.slice Av cnt cv)) := by
  obtain ⟨h0, h1⟩ := key_all hf h
  refine ⟨Ak, cnt, ck, Av, cnt, cv, by rw [h0, h1]; rfl, ?_, below_store7 (hb1.trans (hL.bel.mono hb1.size)) (Nat.le_refl _) _ _ _ _⟩
  rw [h1]
  have keep : ∀ k, w1.heap.size + 1 ≤ k → ((((wr.setCell ⟨w.heap.size, 0, none⟩ (.int .i64 (treeR l))).setCell ⟨w.heap.size, 1, none⟩ (.bool (leafR l))).setCell ⟨w.heap.size, 2, none⟩ (.slice Ak cnt ck)).setCell ⟨w.heap.size, 3, none⟩ (.slice Av cnt cv)).heap[k]? = wr.heap[k]? := fun k hk => by
    rw [heap_setCell_other _ _ _ _ (by simp; omega), heap_setCell_other _ _ _ _ (by simp; omega), heap_setCell_other _ _ _ _ (by simp; omega), heap_setCell_other _ _ _ _ (by simp; omega)]
  have o1 := own_kept hL.ok (fun k hk _ => keep k hk)
  have o2 := own_kept hL.ov (fun k hk _ => keep k hk)
  obtain ⟨A1, c1, e1, g1⟩ := Ints.of_own o1
  obtain ⟨A2, c2, e2, g2⟩ := Strs.of_own o2
  injection e1 with e1 _ e3
  injection e2 with e2 _ e4
  subst e1; subst e2; subst e3; subst e4
  exact ⟨g1, g2, by simp only [i64b, treeR]; have := UInt8.toNat_lt (l.getD 1 0); omega, intsR_bd h0, valsR_bd h0⟩

end Go.Proofs.Ythajfnnngaffjaa
