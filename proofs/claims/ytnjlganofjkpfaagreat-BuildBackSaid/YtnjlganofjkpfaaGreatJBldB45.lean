/-
  Joined: WlkB, WlkC.
-/
import Derived.RangeFuncBox
import Derived.RangeFuncLeaves
import Derived.RangeFuncCalls
import Derived.Shelf.Abstract
import Derived.OwnWalkIn
import Derived.TacticsInMore
import Derived.LoopNIn
import Derived.LoopIn
import Derived.BigQuiet
import Derived.Deep.RegionHeld3
import Derived.Test.YtnjlganofjkpfaaGreatJBldB41
import Derived.RangeFuncNested
import Derived.Deep.RegionLaw
/-
  Layer 14: slices.Index, slices.Contains, depth; the iterator of slices.Backward.
-/
namespace Go.Proofs.YtnjlganofjkpfaaGreat
open Go.RowKit Go.Shelf
set_option linter.unusedVariables false
set_option linter.unusedSimpArgs false
attribute [local go_sem] Oper.semAt_some

set_option maxRecDepth 100000 in
theorem Index_any14 {A : Option Addr} {n c : Nat} {L : List Int} (v : Int) (w : World) (h : Ints w A n c L) :
    Calls Tryz.prog 74 #[.slice A n c, .int .i64 v] w fun e w' => ∃ i : Int, e = .returned (.int .i64 i) ∧ (0 ≤ i ↔ v ∈ L) ∧ w = w' := by
  have hl := h.len
  have hle := h.le
  have HI := Lib.hid h
  have HL := Lib.hid hl
  clear h hl
  go_enter Tryz.func74, Tryz.ntmps74
  go_wp2
  go_loopw [8] (fun i wr => ∃ k : Nat, k ≤ n ∧ i = .int .i64 k ∧ wr = w ∧ Hid (v ∉ L.take k)) (fun i _ => n - (intOf i).toNat)
  case atStart => exact ⟨0, by omega, rfl, rfl, by simp [Hid]⟩
  case round =>
    obtain ⟨k, hk, rfl, rfl, hno⟩ := hrel
    by_cases hlt : k < n
    · have hkl : k < L.length := by have := HL.out; omega
      obtain ⟨b, off, rfl, hb, hc⟩ := HI.out.row.lit (by rw [i64s_length]; omega)
      have hck := hc k _ (i64s_at L k hkl)
      have HT := Lib.hid (List.take_succ_eq_append_getElem hkl)
      have HM := Lib.hid (List.getElem_mem hkl)
      clear hc
      generalize L[k] = x at *
      by_cases hx : v = x
      · subst hx
        go_wp2
        go_ret
        exact ⟨_, rfl, ⟨fun _ => HM.out, fun _ => by omega⟩, rfl⟩
      · have hd : (v == x) = false := by simpa using hx
        have HX := Lib.hid hx
        clear hx
        go_wp2
        go_roundw
        case rel =>
          refine ⟨k + 1, by omega, by go_num, by first | rfl | trivial, fun hm => ?_⟩
          rw [HT.out] at hm
          rcases List.mem_append.1 hm with hm | hm
          · exact hno.out hm
          · exact HX.out (List.mem_singleton.1 hm)
        case measure => simp only [intOf]; omega
    · obtain rfl : k = n := by omega
      go_wp2
      go_ret
      refine ⟨_, rfl, ⟨fun h => by omega, fun hm => ?_⟩, rfl⟩
      have := hno.out
      rw [List.take_of_length_le (by have := HL.out; omega)] at this
      exact absurd hm this

set_option maxRecDepth 100000 in
theorem Contains_any14 {A : Option Addr} {n c : Nat} {L : List Int} (v : Int) (w : World) (h : Ints w A n c L) :
    Calls Tryz.prog 58 #[.slice A n c, .int .i64 v] w fun e w' => e = .returned (.bool (decide (v ∈ L))) ∧ w = w' := by
  have IX := Lib.hid (Index_any14 v w h)
  clear h
  by_cases hm : v ∈ L
  · have hd : decide (v ∈ L) = true := by simpa using hm
    rw [hd]
    have HM := Lib.hid hm
    clear hm hd
    go_enter Tryz.func58, Tryz.ntmps58
    go_wp2_with (go_at_call 74; (with_reducible refine (IX.out).mono ?_); rintro e w1 ⟨i, rfl, hi, rfl⟩; have hi0 : 0 ≤ i := hi.2 HM.out; clear hi)
    go_ret
    exact ⟨rfl, rfl⟩
  · have hd : decide (v ∈ L) = false := by simpa using hm
    rw [hd]
    have HM := Lib.hid hm
    clear hm hd
    go_enter Tryz.func58, Tryz.ntmps58
    go_wp2_with (go_at_call 74; (with_reducible refine (IX.out).mono ?_); rintro e w1 ⟨i, rfl, hi, rfl⟩; have hi0 : decide (0 ≤ i) = false := decide_eq_false (fun h => HM.out (hi.1 h)); clear hi)
    go_ret
    exact ⟨rfl, rfl⟩

set_option maxRecDepth 100000 in
theorem depth_any14 (p : Nat) {A : Option Addr} {n c : Nat} (w : World) (hc : w.cell? ⟨p, 8, none⟩ = some (.slice A n c)) (hn : n ≤ 9223372036854775806) :
    Calls Tryz.prog 59 #[.pointer (some ⟨p, 0, none⟩)] w fun e w' => e = .returned (.int .i64 ((n : Int) + 1)) ∧ w = w' := by
  go_enter Tryz.func59, Tryz.ntmps59
  go_wp2
  go_ret
  exact ⟨rfl, rfl⟩

/-! ### the iterator from the last element to the first -/
/-- the indices from n - 1 down to k -/
def rev14 (n k : Nat) : List Nat := (List.range' k (n - k)).reverse
theorem rev14_start (n : Nat) : rev14 n n = [] := by simp [rev14]
theorem rev14_step {n k : Nat} (h : k < n) : rev14 n (k + 1) ++ [k] = rev14 n k := by
  unfold rev14
  rw [show n - k = (n - (k + 1)) + 1 by omega, List.range'_succ, List.reverse_cons]
theorem rev14_length (n k : Nat) : (rev14 n k).length = n - k := by simp [rev14]

/-- what a round is handed: an index, and the element -/
def encB14 (L : List Int) (k : Nat) : Array Value := #[.int .i64 (k : Int), .int .i64 (L.getD k 0)]
/-- what a round keeps: all below n₀, and the iterator's variable -/
def KpB14 (n₀ Bc : Nat) (W W' : World) : Prop := Below n₀ W W' ∧ W'.heap[Bc]? = W.heap[Bc]?
theorem KpB14.refl (n₀ Bc : Nat) (W : World) : KpB14 n₀ Bc W W := ⟨Below.refl _ _, rfl⟩
theorem KpB14.trans {n₀ Bc : Nat} {A B C : World} (h : KpB14 n₀ Bc A B) (k : KpB14 n₀ Bc B C) : KpB14 n₀ Bc A C := ⟨h.1.trans k.1, k.2.trans h.2⟩
theorem KpB14.put {n₀ Bc : Nat} {w : World} (hn : n₀ ≤ w.heap.size) (hB : Bc < w.heap.size) (W : World) (l : Nat) (o o' : Obj) (hl : w.heap.size ≤ l) (h : W.heap[l]? = some o) (h1 : o.isCells = false) (h2 : o.isWalk = false) : KpB14 n₀ Bc W (W.putObj l o') :=
  ⟨belowK_b hn W l o o' hl h h1 h2, World.putObj_heap_other (by omega)⟩

set_option maxRecDepth 100000 in
set_option maxHeartbeats 2000000 in
theorem back1_in (l Bc n₀ : Nat) (A : Option Addr) (n c : Nat) (L : List Int) (J Jx : List Nat → World → Prop)
    (hY : ∀ (pre : List Nat) (x : Nat) W, J pre W → pre.length < n → YieldAt Fence.wide 0 Tryz.prog l (encB14 L x) W fun e W' =>
      (e = .returned (.bool true) ∧ J (pre ++ [x]) W' ∧ KpB14 n₀ Bc W W') ∨ (e = .returned (.bool false) ∧ Jx (pre ++ [x]) W'))
    (W : World) (hc : Boxed W Bc 33 (.slice A n c))
    (hI : Ints W A n c L) (hIn : 0 < L.length → ∀ ad, A = some ad → ad.block < n₀) (h0 : J [] W) :
    CallsIn Fence.wide 1 Tryz.prog 73 #[.func (.yield l) #[] #[], .pointer (some ⟨Bc, 0, none⟩)] W fun e W' => (∃ v, e = .returned v) ∧
      ((∃ ys, ys = rev14 n 0 ∧ J ys W') ∨ (∃ pre, True ∧ Jx pre W')) := by
  have hlen := hI.len
  have hcap := hI.cap
  have hle := hI.le
  have ROW : Hid (∀ W', Below n₀ W W' → ∀ k, (hk : k < L.length) → ∃ b off, A = some ⟨b, off, none⟩ ∧ W'.cell? ⟨b, off + k, none⟩ = some (.int .i64 L[k])) := fun W' hb k hk => by
    obtain ⟨b, off, e, _, hc⟩ := hI.row.lit (by rw [i64s_length]; omega)
    have := hc k _ (i64s_at L k hk)
    exact ⟨b, off, e, (hb.cell (p := ⟨b, off + k, none⟩) (by exact hIn (by omega) ⟨b, off, Option.none⟩ e)).trans this⟩
  have HY := Lib.hid hY
  have hcc := hc.cell
  have HB : Hid (∀ W', KpB14 n₀ Bc W W' → Boxed W' Bc 33 (.slice A n c)) := fun W' h => h.2.trans hc
  have HLn := Lib.hid hlen
  clear hI hIn hY hc hlen
  refine callsIn_of_wp Tryz.func73 rfl trivial ?_ rfl
  simp only [Tryz.ntmps73, List.size_toArray, List.length_cons, List.length_nil, Nat.reduceAdd, Nat.reduceSub, Array.replicate_succ, Array.replicate_zero, List.push_toArray, List.append_toArray, List.nil_append, List.cons_append]
  gi_wp2
  gi_loopw [3] (fun i wr => ∃ (k : Nat) (j : Int), k ≤ n ∧ j = (k : Int) - 1 ∧ i = .int .i64 j ∧ Hid (J (rev14 n k) wr) ∧ Hid (KpB14 n₀ Bc W wr))
    (fun i _ => (intOf i + 1).toNat)
  case atStart => exact ⟨n, _, Nat.le_refl _, rfl, rfl, by rw [rev14_start]; exact h0, KpB14.refl _ _ _⟩
  case round =>
    obtain ⟨k, j, hk, hj, rfl, hJs, hnx⟩ := hrel
    have hq0 := (HB.out wr hnx.out).cell
    cases k with
    | zero =>
      have hj1 : ¬ 0 ≤ j := by omega
      clear hj
      gi_wp2
      go_end0
      exact ⟨⟨_, rfl⟩, .inl hJs.out⟩
    | succ q =>
      obtain rfl : j = (q : Int) := by omega
      clear hj
      obtain ⟨b, off, hA, hcx⟩ := ROW.out wr hnx.out.1 q (by have := HLn.out; omega)
      have HYk := HY.out (rev14 n (q + 1)) q wr hJs.out (by rw [rev14_length]; omega)
      have e0 : L.getD q 0 = L[q]'(by have := HLn.out; omega) := by rw [List.getD_eq_getElem?_getD, List.getElem?_eq_getElem (by have := HLn.out; omega)]; rfl
      rw [encB14, e0, rev14_step (by omega)] at HYk
      obtain ⟨fn, tmps, assign, body, hy, hR⟩ := HYk
      clear e0
      generalize L[q]'(by have := HLn.out; omega) = x at *
      subst hA
      gi_wp2
      refine hR.mono ?_
      rintro e W3 (⟨rfl, hJ3, hk3⟩ | ⟨rfl, hJx3⟩)
      · gi_wp2
        go_roundw
        case rel => exact ⟨q, _, by omega, rfl, rfl, hJ3, hnx.out.trans hk3⟩
        case measure => simp only [intOf]; omega
      · gi_wp2
        refine bodyPost_ret (results_none rfl _ _ _) rfl ?_
        exact ⟨⟨_, rfl⟩, .inr ⟨_, trivial, hJx3⟩⟩

theorem back_stops (Bc n₀ : Nat) (A : Option Addr) (n c : Nat) (L : List Int) (w : World) (hn : n₀ ≤ w.heap.size)
    (hc : Boxed w Bc 33 (.slice A n c))
    (hI : Ints w A n c L) (hIn : 0 < L.length → ∀ ad, A = some ad → ad.block < n₀) :
    SeqStopsK Fence.wide 1 Tryz.prog 73 #[.pointer (some ⟨Bc, 0, none⟩)] (encB14 L) (KpB14 n₀ Bc) (fun ys => ys = rev14 n 0) (fun _ => True) n w := fun l J Jx W hW _ _ hY h0 =>
  back1_in l Bc n₀ A n c L J Jx hY W ((hW.block Bc hc.lt).trans hc) (hI.below hW) hIn h0

set_option maxHeartbeats 1000000 in
theorem Backward_any14 (A : Option Addr) (n c : Nat) (w : World) :
    Calls Tryz.prog 57 #[.slice A n c] w fun e w' => e = .returned (.func (.func 73) #[] #[.pointer (some ⟨w.heap.size, 0, none⟩)]) ∧ w' = w.alloc (.cells #[.slice A n c] 33) := by
  go_enter Tryz.func57, Tryz.ntmps57
  go_wp2
  go_ret
  exact ⟨rfl, rfl⟩

end Go.Proofs.YtnjlganofjkpfaaGreat

/-
  Layer 14: report.
-/
namespace Go.Proofs.YtnjlganofjkpfaaGreat
open Go.RowKit Go.Shelf
set_option linter.unusedVariables false
set_option linter.unusedSimpArgs false
attribute [local go_sem] Oper.semAt_some

theorem info_err14 : (Tryz.prog.info? 30).map (fun i => (i.zero, i.size, i.bytes)) = some (some .nilIface, 1, 16) := by kernel_rfl

/-- what the loop keeps: the error as it was wrapped so far, all below as it was -/
def Wr14 (w : World) (way bs : List Int) (x : Int) (pre : List Nat) (W : World) : Prop :=
  (∃ l, Boxed W w.heap.size 30 (val l) ∧ Good W l ∧ Chain ((pre.map fun k => way.getD k 0).reverse ++ bs) x l) ∧ Below w.heap.size w W ∧ w.heap.size + 2 ≤ W.heap.size
theorem good_own {C : Nat} {X Y : World} {row : Option Nat} {l : List Node} (hG : Good X l) (hg : X.grownBy Y row) (hr : ∀ r, row = some r → C ≤ r ∧ ∃ o : Obj, X.heap[r]? = some o ∧ o.isCells = false) : Good Y l :=
  hG.same fun q c e => (hg.block q (block_lt e) (fun h => by
    obtain ⟨_, o, ho, hc⟩ := hr q h.symm
    rw [ho] at e
    cases e; cases hc)).trans e
theorem Wr14.own (w : World) (way bs : List Int) (x : Int) (C : Nat) (hC : w.heap.size ≤ C) : OwnFrom C (Wr14 w way bs x) := fun pre X Y row hs hg hr => by
  obtain ⟨⟨l, h1, h2, h3⟩, h4, h5⟩ := hs
  refine ⟨⟨l, boxed_own _ _ (fun _ : Unit => val l) () X Y row h1 hg (fun r e => (hr r e).2), good_own h2 hg hr, h3⟩, ?_, Nat.le_trans h5 hg.size⟩
  exact ownFrom_below (β := Unit) (w₀ := w) (Nat.le_refl _) hC () X Y row h4 hg hr
theorem wr14_all (way : List Int) : ((rev14 way.length 0).map fun k => way.getD k 0).reverse = way := by
  unfold rev14
  rw [List.map_reverse, List.reverse_reverse, Nat.sub_zero, ← List.range_eq_range']
  apply List.ext_getElem
  · simp
  · intro i h1 h2
    simp [List.getD_eq_getElem?_getD, List.getElem?_eq_getElem h2]

/-- a record that is no cells is turned: nothing of the state moves -/
theorem St14.putObj {w : World} {p : Nat} {im : Value} {tree fuel : Int} {s : Rows14} {W : Wlk14} {way : List Int} (h : St14 w p im tree fuel s W way) {D : Nat} {o : Obj} (hD : w.heap[D]? = some o) (ho : o.isCells = false) (o' : Obj) : St14 (w.putObj D o') p im tree fuel s W way := by
  have hg := grownBy_putObj' w D o'
  have hne : ∀ {q : Nat} {c : Array Value} {t : TypeId} {fr : Nat × Nat}, w.heap[q]? = some (.cells c t fr) → (w.putObj D o').heap[q]? = w.heap[q]? := fun {q c t fr} e => World.putObj_heap_other (fun e2 => by
    subst e2
    rw [hD] at e
    cases e; cases ho)
  have key : ∀ {base size n : Nat} {e : TypeId} {v : Value} {xs : List Value}, w.ownsRow base e size v n xs → (w.putObj D o').ownsRow base e size v n xs := fun {base size n e v xs} hr => own_moved hr fun k hk _ => by
    obtain ⟨_, cu, hc⟩ := own_apartS hr k hk
    exact hne hc
  obtain ⟨fs, hf, hF⟩ := h.flts
  exact ⟨(hne h.blk).trans h.blk, key h.ents, key h.blks, key h.path, ⟨fs, key hf, hF.same fun q c e => (hne e).trans e⟩, h.apart⟩
theorem Mov14.putObj {w0 w : World} {p : Nat} {s0 s : Rows14} (h : Mov14 p s0 w0 s w) {D : Nat} (hD : w0.heap.size ≤ D) (o' : Obj) : Mov14 p s0 w0 s (w.putObj D o') :=
  ⟨⟨h.frm.os, h.frm.tape, h.frm.output, by simpa using h.frm.size, fun q hq hn => (World.putObj_heap_other (by omega)).trans (h.frm.block q hq hn)⟩, h.old⟩

set_option maxRecDepth 100000 in
set_option maxHeartbeats 2000000 in
theorem report_any14 {w : World} {p : Nat} {im : Value} {tree fuel : Int} {s : Rows14} {W : Wlk14} {way : List Int} (h : St14 w p im tree fuel s W way) {l0 : List Node} {bs : List Int} {x : Int} (hG : Good w l0) (hC : Chain bs x l0) (hn : W.flts.length ≤ 1000000) :
    Calls Tryz.prog 44 #[.pointer (some ⟨p, 0, none⟩), val l0] w fun e w' => (∃ v, e = .returned v) ∧ ∃ s', St14 w' p im tree fuel s' ⟨W.ents, W.blks, W.deep, W.looked, W.flts ++ [(way ++ bs, x)]⟩ way ∧ Mov14 p s w s' w' := by
  obtain ⟨A, c, hP, hI⟩ := Ints.of_own h.path
  have HS := Lib.hid h
  have c8 : ∀ W', Below w.heap.size w W' → W'.cell? ⟨p, 8, none⟩ = some (.slice A way.length c) := fun W' hb => by
    have := (h.later hb).c8; rwa [hP] at this
  have hq8 := c8 _ ((Below.refl w.heap.size w).alloc (Nat.le_refl _) (.cells #[val l0] 30))
  have HG := Lib.hid hG
  have HC := Lib.hid hC
  have HI := Lib.hid hI
  obtain ⟨vt, vu, hv0⟩ : ∃ t u, .iface t u = val l0 := by
    have hne := hC.ne
    cases l0 with
    | nil => exact absurd rfl hne
    | cons x l => cases x <;> exact ⟨_, _, rfl⟩
  rw [← hv0] at hq8 ⊢
  have HV0 := Lib.hid hv0
  have HN := Lib.hid hn
  have HH := Lib.hid h.lt
  clear h hG hC hI hv0 c8 hP hn
  refine (callsIn_wide (n := 2)).1 ?_
  refine callsIn_of_wp_marks Tryz.func44 rfl trivial ?_ rfl
  simp only [Tryz.ntmps44, List.size_toArray, List.length_cons, List.length_nil, Nat.reduceAdd, Nat.reduceSub, Array.replicate_succ, Array.replicate_zero, List.push_toArray, List.append_toArray, List.nil_append, List.cons_append]
  gi_wp2_with (refine ⟨trivial, ?_⟩; gi_at_call 57; refine (callsIn_wide.2 (Backward_any14 _ _ _ _)).mono ?_; rintro e w' ⟨rfl, rfl⟩)
  clear hq8
  obtain ⟨W0, hW0⟩ : ∃ W0, ((w.alloc (.cells #[.iface vt vu] 30)).alloc (.cells #[.slice A way.length c] 33)) = W0 := ⟨_, rfl⟩
  have hsz : W0.heap.size = w.heap.size + 2 := by rw [← hW0]; simp
  have b0 : Boxed W0 w.heap.size 30 (.iface vt vu) := by rw [← hW0]; exact (Boxed.new w _ _).alloc _
  have bC : Boxed W0 (w.heap.size + 1) 33 (.slice A way.length c) := by
    have := Boxed.new (w.alloc (.cells #[.iface vt vu] 30)) 33 (.slice A way.length c)
    rw [World.size_alloc] at this
    rw [← hW0]; exact this
  have hB0 : Below w.heap.size w W0 := by rw [← hW0]; exact ((Below.refl _ w).alloc (Nat.le_refl _) _).alloc (by simp) _
  simp only [hW0]
  clear hW0
  have hst := back_stops (w.heap.size + 1) w.heap.size A way.length c way W0 (by omega) bC (HI.out.below hB0)
    (fun h0 ad e => by
      obtain ⟨b, off, e2, hl, _⟩ := HI.out.row.lit (by rw [i64s_length]; exact h0)
      rw [e] at e2
      cases e2; exact hl)
  have HST := Lib.hid hst
  clear hst
  have hI0 : Wr14 w way bs x [] W0 := ⟨⟨l0, by rw [← HV0.out]; exact b0, HG.out.below hB0, HC.out⟩, hB0, by omega⟩
  clear b0 bC hB0
  refine wpIn_rangeFunc_ownG rfl (Nat.le_succ 1) (gf := 73) (lb := #[.pointer (some ⟨w.heap.size + 1, 0, none⟩)]) rfl trivial (enters_of Tryz.func73 (by kernel_rfl) rfl)
    HST.out KpB14.trans (KpB14.put (by omega) (by omega)) (Below.refl _ _) (fun _ => rfl)
    (Wr14 w way bs x)
    (fun _ _ _ => False)
    (Wr14.own _ _ _ _ _ (by omega))
    (fun _ _ _ _ _ hs _ _ => hs)
    hI0
    (fun k => { tmps := #[.pointer (some ⟨p, 0, none⟩), .iface vt vu, undef, .pointer (some ⟨w.heap.size, 0, none⟩), undef, .int .i64 (way.getD k 0), .pointer (some ⟨p, 0, none⟩), .pointer (some ⟨p, 0, none⟩), .pointer (some ⟨p, 8, none⟩), .slice A way.length c, .func (.func 73) #[] #[.pointer (some ⟨w.heap.size + 1, 0, none⟩)], .int .i64 (k : Int), .int .i64 (way.getD k 0), undef, undef, undef, undef, undef, undef, undef, undef, undef, undef, undef, undef, undef, undef, undef], defers := [] }) ?assign ?body ?done ?stop
  case assign =>
    intro l k W' K hK
    have HK := Lib.hid hK
    unfold encB14
    clear hK
    generalize way.getD k 0 = y at *
    gi_wp2
    exact HK.out
  case body =>
    rintro l pre k W' ⟨⟨u, hv, hg, hch⟩, hB, hs2⟩ hlt
    have hc := hv.cell
    have hf := hv.frozen
    have AT := Lib.hid (At_err (way.getD k 0) hch.ne hg)
    have HV := Lib.hid hv
    have HCH := Lib.hid hch
    have HB := Lib.hid hB
    clear hv hg hch hB
    generalize hy : way.getD k 0 = y at *
    have HY := Lib.hid hy
    clear hy
    obtain ⟨ut, uu, huv⟩ : ∃ t u', .iface t u' = val u := by
      have hne := HCH.out.ne
      cases u with
      | nil => exact absurd rfl hne
      | cons x l => cases x <;> exact ⟨_, _, rfl⟩
    rw [← huv] at hc AT
    simp only [val] at AT
    have HU := Lib.hid huv
    clear huv
    gi_wp2_with (refine ⟨trivial, rfl, ?_⟩; refine CallsIn.mono (show CallsIn (Fence.wide.inRound l) 0 _ _ _ _ _ from callsIn_wide.2 AT.out) ?_; rintro e w1 ⟨q, rfl, hg1, hb1⟩; have hv1 : Boxed w1 w.heap.size 30 (.iface ut uu) := (hb1.block _ HV.out.lt).trans (HU.out ▸ HV.out); have hc1 := hv1.cell; have hf1 := hv1.frozen; have HV1 := Lib.hid hv1; have HG1 := Lib.hid hg1; have HB1 := Lib.hid hb1; clear hv1 hg1 hb1 hc hf)
    have HK1 : Keeps w1 (w1.setCell ⟨w.heap.size, 0, none⟩ (val (.flt y q :: u))) := fun q2 c2 e => (heap_setCell_other _ _ q2 _ (fun h => by
      have h : q2 = w.heap.size := h
      subst h
      rw [show w1.heap[w.heap.size]? = _ from HV1.out] at e
      injection e with e
      injection e with _ e2 _
      exact absurd e2 (by decide))).trans e
    have hbel := HB1.out
    refine ⟨⟨by simpa [World.setCell] using hbel.size, fun k2 o hk2 ho _ => (heap_setCell_other _ _ k2 _ (by show k2 ≠ w.heap.size; omega)).trans ((hbel.block _ (block_lt ho)).trans ho)⟩, ⟨(hbel.mono (B' := w.heap.size) (by omega)).setCell (p := ⟨w.heap.size, 0, none⟩) (Nat.le_refl _) _, (heap_setCell_other _ _ _ _ (by show w.heap.size + 1 ≠ w.heap.size; omega)).trans (hbel.block _ (by omega))⟩, ⟨.flt y q :: u, HV1.out.set _, HG1.out.same HK1, ?_⟩, (HB.out.trans (hbel.mono (B' := w.heap.size) (by omega))).setCell (p := ⟨w.heap.size, 0, none⟩) (Nat.le_refl _) _, by simpa [World.setCell] using Nat.le_trans hs2 hbel.size⟩
    rw [List.map_append, List.reverse_append]
    show Chain (way.getD k 0 :: _) x _
    rw [HY.out]
    exact ⟨q, u, rfl, HCH.out⟩
  case done =>
    rintro D ys W' hD rfl ⟨⟨u, hv, hg, hch⟩, hB, hs2⟩ hK
    rename_i Q1 K1 HK1
    rw [wr14_all] at hch
    obtain ⟨ut, uu, huv⟩ : ∃ t u', .iface t u' = val u := by
      have hne := hch.ne
      cases u with
      | nil => exact absurd rfl hne
      | cons x l => cases x <;> exact ⟨_, _, rfl⟩
    rw [← huv] at hv
    have hc := hv.cell
    have hS := HS.out.later hB
    have c4 := hS.c4
    have f4 := hS.fz 4
    obtain ⟨fs, hfs, hF⟩ := hS.flts
    have HR : Hid (∀ W1, Below W'.heap.size W' W1 → St14 W1 p im tree fuel s W way ∧ Hid (W1.ownsRow (p + 1) 30 1 s.F W.flts.length (fs.map val)) ∧ Flts14 W1 fs W.flts ∧ Good W1 u) := fun W1 hb => ⟨hS.later hb, own_moved hfs fun k _ hk => hb.block k hk, hF.same (Keeps.of_below hb), hg.below hb⟩
    have HU := Lib.hid huv
    have HCH := Lib.hid hch
    have HB := Lib.hid hB
    have HK := Lib.hid hK
    have hn2 := HN.out
    have hpl := hS.lt
    have hDW : Hid (D < W'.heap.size) := block_lt hK
    clear hv hg hch hB hK hS hfs hF huv
    refine HK1 _ _ (wpIn_mono (Q := Exit.then (fun a' w' => a'.defers = [{ target := .collected D, args := #[] }] ∧ Hid (w'.heap[D]? = some (.deferred (some [])) ∧ ∃ s', St14 w' p im tree fuel s' ⟨W.ents, W.blks, W.deep, W.looked, W.flts ++ [(way ++ bs, x)]⟩ way ∧ Mov14 p s w s' w')) (fun _ _ _ => False)) (wpIn_wide.2 ?_) ?_)
    · simp only []
      go_wp2
      go_region_law (first
        | (refine step_append_liesG _ rfl (.tmp 21) (.tmp 23) 34 rfl (p + 1) 30 1 .nilIface 16 Tryz.underlying34 info_err14 rfl (by omega) s.F W.flts.length (fs.map val) rfl (HR.out _ (((Below.refl _ _).alloc (Nat.le_refl _) _).drew)).2.1 (by simp; omega) ⟨W'.heap.size, 0, none⟩ [.iface ut uu] 1 1 rfl rfl (Row.of_block (t := 30) (fr := (0, 0)) (heap_alloc_new W' _)) (by simp [Value.oneCell']) (by omega) (by omega) (by omega) ?_
           intro g cap w2 hown hgrow hat
           have hbW := ((Below.refl W'.heap.size W').alloc (Nat.le_refl _) (.cells #[.iface ut uu] 30)).drew
           obtain ⟨hS1, hO1, hF1, hG1⟩ := HR.out _ hbW
           have hp2 : w2.heap[p]? = _ := (hgrow.out.block p hS1.lt (fun e => by have := (hO1.out.lt p e.symm).1; omega)).trans hS1.blk
           have c4' : w2.cell? ⟨p, 4, none⟩ = some s.F := by rw [cell_of_row w2 p 4 _ _ _ hp2]; rfl
           have f4' : w2.frozen? ⟨p, 4, none⟩ = false := frozen_of_row w2 p 4 _ _ hp2
           have hD2 : w2.heap[D]? = some (.deferred (some [])) := (hgrow.out.block D (Nat.lt_of_lt_of_le (block_lt HK.out) hbW.size) (fun e => by
             obtain ⟨_, cu, e2⟩ := own_apartS hO1.out D e.symm
             rw [hbW.block D (block_lt HK.out), HK.out] at e2
             cases e2)).trans ((hbW.block D (block_lt HK.out)).trans HK.out)
           have HX : Hid ((w2.setCell ⟨p, 4, none⟩ (.slice (some ⟨g, 0, none⟩) (W.flts.length + 1) cap)).heap[D]? = some (.deferred (some [])) ∧ ∃ s', St14 (w2.setCell ⟨p, 4, none⟩ (.slice (some ⟨g, 0, none⟩) (W.flts.length + 1) cap)) p im tree fuel s' ⟨W.ents, W.blks, W.deep, W.looked, W.flts ++ [(way ++ bs, x)]⟩ way ∧ Mov14 p s w s' (w2.setCell ⟨p, 4, none⟩ (.slice (some ⟨g, 0, none⟩) (W.flts.length + 1) cap))) := by
             obtain ⟨hX1, hX2⟩ := hS1.addFlt hF1 (x := (way ++ bs, x)) hG1 HCH.out hgrow.out hat.out hO1.out (HU.out ▸ hown.out)
             exact ⟨(heap_setCell_other _ _ D _ (by have := HH.out; show D ≠ p; omega)).trans hD2, _, hX1, (Mov14.of_below s (HB.out.trans (hbW.mono (by omega)))).trans hX2⟩
           clear hown hgrow hat hS1 hO1 hF1 hG1 hp2 hD2))
      all_goals exact ⟨rfl, HX⟩
    · intro e a' w' he
      cases e with
      | normal =>
        obtain ⟨tm, df⟩ := a'
        obtain ⟨hd, hx⟩ := he
        have hd : df = _ := hd
        subst hd
        obtain ⟨hK2, s', h1, h2⟩ := hx.out
        have HE : Hid (∃ s', St14 (w'.putObj D (.deferred none)) p im tree fuel s' ⟨W.ents, W.blks, W.deep, W.looked, W.flts ++ [(way ++ bs, x)]⟩ way ∧ Mov14 p s w s' (w'.putObj D (.deferred none))) := ⟨s', h1.putObj hK2 rfl _, h2.putObj (by omega) _⟩
        refine ⟨by simp, .inl ⟨_, _, rfl, run_takeDeferred hK2, ?_⟩⟩
        exact ⟨_, results_none rfl _ _ _, ⟨_, rfl⟩, HE.out⟩
      | _ => exact he.elim
  case stop =>
    rintro D c pre W _ _ h _
    exact h.elim

end Go.Proofs.YtnjlganofjkpfaaGreat
