/-
  Joined: RunC, RunD, RunE, RunF, RunPB.
-/
import Derived.Deep.RegionHeld3
import Derived.Test.YtccippplpcjaiaaJRunB01
import Derived.Test.YtccippplpcjaiaaJRunB12
import Derived.Test.YtccippplpcjaiaaJRunB13
import Derived.BigQuiet
/-
  Layer 19: the reference's Maps.
-/
namespace Go.Proofs.Ytccippplpcjaiaa
open Go.RowKit
set_option linter.unusedVariables false
set_option linter.unusedSimpArgs false

theorem info_map19 : (Try.prog.info? 39).map (fun i => (i.zero, i.size, i.bytes)) = some (some (.agg #[.int .i64 0, .int .i64 0, .int .i64 0]), 3, 24) := by kernel_rfl
/-- what Maps answers -/
def mapL19 (l : List Run19) : List Map19 := if chkE19 0 none l = 0 then maps19 l else []
/-- the mappings of the first i runs, and the first k of the next -/
def mapAt19 (l : List Run19) (i k : Nat) : List Map19 := maps19 (l.take i) ++ (exp19 (l.getD i zero19)).take k
theorem mapAt19_zero (l : List Run19) : mapAt19 l 0 0 = [] := by simp [mapAt19, maps19]
theorem mapAt19_step {l : List Run19} {i k : Nat} (h : (k : Int) < (l.getD i zero19).n) : mapAt19 l i (k + 1) = mapAt19 l i k ++ [((l.getD i zero19).v + (k : Int), (l.getD i zero19).b + (k : Int), (l.getD i zero19).t)] := by
  unfold mapAt19
  rw [exp19_take h, List.append_assoc]
theorem mapAt19_next {l : List Run19} {i k : Nat} (hi : i < l.length) (h : (l.getD i zero19).n ≤ (k : Int)) : mapAt19 l (i + 1) 0 = mapAt19 l i k := by
  unfold mapAt19
  rw [maps19_take hi, exp19_all h, List.take_zero, List.append_nil, getD19 hi]
theorem mapAt19_all (l : List Run19) : mapAt19 l l.length 0 = maps19 l := by simp [mapAt19]
theorem mapAt19_part {l : List Run19} {i : Nat} (hi : i < l.length) (k : Nat) : ∃ r, maps19 l = mapAt19 l i k ++ r := by
  have e : maps19 l = maps19 (l.take i) ++ maps19 (l.drop i) := by rw [← maps19_append, List.take_append_drop]
  rw [List.drop_eq_getElem_cons hi, maps19_cons] at e
  refine ⟨(exp19 l[i]).drop k ++ maps19 (l.drop (i + 1)), ?_⟩
  unfold mapAt19
  rw [e, getD19 hi, List.append_assoc, ← List.append_assoc (List.take k _), List.take_append_drop]

set_option maxRecDepth 100000 in
set_option maxHeartbeats 3200000 in
theorem refMaps_bad19 (l : List Run19) (A : Option Addr) (n c : Nat) (w : World) (h : Rns w A n c l) (hbd : ∀ q ∈ l, (-9223372036854775808 ≤ q.v ∧ q.v ≤ 9223372036854775807) ∧ (-9223372036854775808 ≤ q.b ∧ q.b ≤ 9223372036854775807) ∧ (-9223372036854775808 ≤ q.n ∧ q.n ≤ 9223372036854775807) ∧ (-9223372036854775808 ≤ q.t ∧ q.t ≤ 9223372036854775807)) (hv : chkE19 0 none l ≠ 0) :
    Calls Try.prog 13 #[.slice A n c] w fun e w' => e = .returned (.tuple #[.slice none 0 0, .int .i64 (chkE19 0 none l)]) ∧ Below w.heap.size w w' := by
  have CK := Lib.hid (refChk_any19 l A n c w h hbd)
  have hyb : (chkE19 0 none l != 0) = true := by simpa using hv
  clear h hbd hv
  generalize chkE19 0 none l = y at *
  go_enter Try.func13, Try.ntmps13
  go_wp2_with (go_at_call 16; (with_reducible refine (CK.out).mono ?_); rintro e w1 ⟨rfl, hb1⟩; have HB1 := Lib.hid hb1; clear hb1)
  go_ret2
  exact ⟨rfl, HB1.out⟩

set_option maxRecDepth 100000 in
set_option maxHeartbeats 3200000 in
theorem refMaps_good19 (l : List Run19) (A : Option Addr) (n c : Nat) (w : World) (h : Rns w A n c l) (hbd : ∀ q ∈ l, (-9223372036854775808 ≤ q.v ∧ q.v ≤ 9223372036854775807) ∧ (-9223372036854775808 ≤ q.b ∧ q.b ≤ 9223372036854775807) ∧ (-9223372036854775808 ≤ q.n ∧ q.n ≤ 9223372036854775807) ∧ (-9223372036854775808 ≤ q.t ∧ q.t ≤ 9223372036854775807)) (hv : chkE19 0 none l = 0) :
    Calls Try.prog 13 #[.slice A n c] w fun e w' => ∃ A' c', e = .returned (.tuple #[.slice A' (maps19 l).length c', .int .i64 0]) ∧ Trs w' A' (maps19 l).length c' (maps19 l) ∧ Below w.heap.size w w' := by
  have hle : n ≤ 9223372036854775807 := Nat.le_trans h.cap h.most
  have hl := h.len
  obtain ⟨M0, hM0⟩ : ∃ M0, (maps19 l).length = M0 := ⟨_, rfl⟩
  rw [hM0]
  have HM0 := Lib.hid hM0
  clear hM0
  have CK := Lib.hid (refChk_any19 l A n c w h hbd)
  rw [hv] at CK
  obtain ⟨hin, _, hlen⟩ := (chk19_good (chk19_pos hv)).1 hv
  have HD := Lib.hid h
  have IN : Hid (∀ (i k : Nat), i < n → (k : Int) < (l.getD i zero19).n → InR19 ((l.getD i zero19).v + (k : Int), (l.getD i zero19).b + (k : Int), (l.getD i zero19).t) ∧ (mapAt19 l i k).length < 16384) := fun i k hi hk => by
    obtain ⟨r, hr⟩ := mapAt19_part (l := l) (i := i) (by omega) (k + 1)
    rw [mapAt19_step hk] at hr
    refine ⟨hin _ (by rw [hr]; simp), ?_⟩
    have := congrArg List.length hr
    simp only [List.length_append, List.length_cons, List.length_nil] at this
    omega
  have NB : Hid (∀ i, i < n → 1 ≤ (l.getD i zero19).n ∧ (l.getD i zero19).n ≤ 16384) := fun i hi => by
    have hil : i < l.length := by omega
    have hp := chk19_pos hv l[i] (List.getElem_mem hil)
    rw [getD19 hil]
    refine ⟨hp, ?_⟩
    obtain ⟨r, hr⟩ := mapAt19_part hil (l[i].n.toNat)
    have := congrArg List.length hr
    unfold mapAt19 at this
    rw [getD19 hil, List.length_append, List.length_append, List.length_take, exp19_length] at this
    omega
  have S0 := Lib.hid (mapAt19_zero l)
  have SS := Lib.hid (fun (i k : Nat) => mapAt19_step (l := l) (i := i) (k := k))
  have SN := Lib.hid (fun (i k : Nat) (hi : i < n) => mapAt19_next (l := l) (i := i) (k := k) (by omega))
  have SA : Hid (mapAt19 l n 0 = maps19 l) := by rw [← hl]; exact Lib.hid (mapAt19_all l)
  clear h hbd hv hin hlen
  go_enter Try.func13, Try.ntmps13
  go_wp2_with (go_at_call 16; (with_reducible refine (CK.out).mono ?_); rintro e w1 ⟨rfl, hb1⟩; have HB1 := Lib.hid hb1; clear hb1)
  go_loopw [5, 6] (fun v i wr => ∃ (k : Nat), k ≤ n ∧ i = .int .i64 k ∧ Hid (wr.ownsRow w.heap.size 39 3 v (mapAt19 l k 0).length (triC (mapAt19 l k 0))) ∧ Hid (Below w.heap.size w wr)) (fun _ i _ => n - (intOf i).toNat)
  case atStart => exact ⟨0, by omega, rfl, by rw [S0.out]; exact World.ownsRow_nil _ _ _ _, HB1.out⟩
  case round =>
    obtain ⟨i, hi, rfl, hO, hbel⟩ := hrel
    by_cases hlt : i < n
    · obtain ⟨b, off, r, rfl, hb, hx, hkl, d0, d1, d2, d3⟩ := rns_at HD.out hlt
      have hnb := NB.out i hlt
      have INi := Lib.hid (IN.out i)
      have SSi := Lib.hid (SS.out i)
      have SNi := Lib.hid (fun k => SN.out i k hlt)
      rw [show l.getD i zero19 = r from hx] at hnb INi SSi SNi
      clear hx
      obtain ⟨m, hm⟩ := Int.eq_ofNat_of_zero_le (show 0 ≤ r.n by omega)
      rw [hm] at d2 hnb
      have HM := Lib.hid hm
      clear hm
      go_wp2
      go_loopw [5, 7] (fun v i' wr => ∃ (k : Nat), k ≤ m ∧ i' = .int .i64 k ∧ Hid (wr.ownsRow w.heap.size 39 3 v (mapAt19 l i k).length (triC (mapAt19 l i k))) ∧ Hid (Below w.heap.size w wr)) (fun _ i' _ => m - (intOf i').toNat)
      case atStart => exact ⟨0, by omega, rfl, hO, hbel⟩
      case round =>
        clear hO hbel
        obtain ⟨k, hk, rfl, hO, hbel⟩ := hrel
        have g0 := (hbel.out.cell (p := ⟨b, off + i * 4, none⟩) hb).trans d0
        have g1 := (hbel.out.cell (p := ⟨b, off + i * 4 + 1, none⟩) hb).trans d1
        have g2 := (hbel.out.cell (p := ⟨b, off + i * 4 + 2, none⟩) hb).trans d2
        have g3 := (hbel.out.cell (p := ⟨b, off + i * 4 + 3, none⟩) hb).trans d3
        by_cases hkm : k < m
        · obtain ⟨hir, hfew⟩ := INi.out k hlt (by rw [HM.out]; omega)
          have hstep := SSi.out k (by rw [HM.out]; omega)
          have hir' : (0 ≤ r.v + (k : Int) ∧ r.v + (k : Int) ≤ 281474976710655) ∧ 0 ≤ r.b + (k : Int) ∧ r.b + (k : Int) < 65536 := ⟨⟨hir.1, hir.2.1⟩, hir.2.2.1, hir.2.2.2.1⟩
          obtain ⟨⟨z1, z2⟩, z3, z4⟩ := hir'
          obtain ⟨x0, hx0⟩ : ∃ x0, r.v + (k : Int) = x0 := ⟨_, rfl⟩
          obtain ⟨x1, hx1⟩ : ∃ x1, r.b + (k : Int) = x1 := ⟨_, rfl⟩
          have hwv : IntKind.i64.wrap (r.v + (k : Int)) = x0 := (IntWalk.i64_in _ (by omega)).trans hx0
          have hwb : IntKind.i64.wrap (r.b + (k : Int)) = x1 := (IntWalk.i64_in _ (by omega)).trans hx1
          have hs : w.heap.size ≤ wr.heap.size := hbel.out.size
          rw [hx0, hx1] at hstep
          have HST := Lib.hid hstep
          clear hir hstep z1 z2 z3 z4 hx0 hx1
          have HNew := Lib.hid (Row.of_block (heap_alloc_new wr (.cells #[.int .i64 x0, .int .i64 x1, .int .i64 r.t] 39)))
          generalize hml : (mapAt19 l i k).length = ml at *
          have HML := Lib.hid hml
          clear hml
          go_wp2
          go_region_held3 (fun W => W.cell? ⟨b, off + i * 4, none⟩ = some (.int .i64 r.v) ∧ W.cell? ⟨b, off + i * 4 + 1, none⟩ = some (.int .i64 r.b) ∧ W.cell? ⟨b, off + i * 4 + 3, none⟩ = some (.int .i64 r.t))
            (first | assumption | go_keep)
            ((refine step_append_rowG _ rfl _ _ 22 rfl w.heap.size 39 3 _ 24 Try.underlying22 info_map19 rfl (by omega) _ ml _ rfl ((hO.out.alloc _).drew) (by simp; omega) ⟨wr.heap.size, 0, none⟩ [.int .i64 x0, .int .i64 x1, .int .i64 r.t] 1 1 rfl rfl HNew.out (triC_one [(x0, x1, r.t)]) (by omega) (by omega) ?_; intro v6 w6 hown6 hg6; have hb6 : Below w.heap.size w w6 := ((hbel.out.alloc hs _).drew).grown hg6.out (by simp; omega) (fun q e => (own_apartS hO.out q e).1); have e0 := (hb6.cell (p := ⟨b, off + i * 4, none⟩) hb).trans d0; have e1 := (hb6.cell (p := ⟨b, off + i * 4 + 1, none⟩) hb).trans d1; have e3 := (hb6.cell (p := ⟨b, off + i * 4 + 3, none⟩) hb).trans d3; have HB6 := Lib.hid hb6; clear hb6))
          go_wp2
          go_roundw
          case rel => exact ⟨k + 1, by omega, by push_cast; rfl, by rw [HST.out, List.length_append, triC_append, HML.out]; exact hown6.out, HB6⟩
          case measure => simp [intOf]; omega
        · obtain rfl : k = m := by omega
          have hnx := SNi.out k (by rw [HM.out]; omega)
          rw [← hnx] at hO
          clear hnx
          go_wp2
          go_roundw
          case rel => exact ⟨i + 1, by omega, by push_cast; rfl, hO, hbel⟩
          case measure => simp [intOf]; omega
    · obtain rfl : i = n := by omega
      rw [SA.out, HM0.out] at hO
      obtain ⟨A', c', hv5, hT⟩ := Trs.of_own hO.out
      have HT := Lib.hid hT
      clear hT hO
      subst hv5
      go_wp2
      go_ret2
      exact ⟨A', c', rfl, HT.out, hbel.out⟩
end Go.Proofs.Ytccippplpcjaiaa

/-
  Layer 19: the reference's Of.
-/
namespace Go.Proofs.Ytccippplpcjaiaa
open Go.RowKit
set_option linter.unusedVariables false
set_option linter.unusedSimpArgs false

theorem info_run19 : (Try.prog.info? 41).map (fun i => (i.zero, i.size, i.bytes)) = some (some (.agg #[.int .i64 0, .int .i64 0, .int .i64 0, .int .i64 0]), 4, 32) := by kernel_rfl
/-- mapping k of a slice, where it lies -/
theorem trs_at19 {w : World} {A : Option Addr} {n c : Nat} {l : List Map19} (h : Trs w A n c l) {k : Nat} (hk : k < n) : ∃ b off x0 x1 x2, A = some ⟨b, off, none⟩ ∧ b < w.heap.size ∧ l.getD k zeroM19 = (x0, x1, x2) ∧ w.cell? ⟨b, off + k * 3, none⟩ = some (.int .i64 x0) ∧ w.cell? ⟨b, off + k * 3 + 1, none⟩ = some (.int .i64 x1) ∧ w.cell? ⟨b, off + k * 3 + 2, none⟩ = some (.int .i64 x2) := by
  obtain ⟨b, off, rfl, hb, hc⟩ := h.lit (by omega)
  have hkl : k < l.length := by have := h.len; omega
  obtain ⟨h0, h1, h2⟩ := hc k hkl
  rw [getD19 hkl]
  exact ⟨b, off, _, _, _, rfl, hb, rfl, h0, h1, h2⟩
theorem ownsRow_drewN19 {w : World} {b : Nat} {e : TypeId} {size n : Nat} {v : Value} {xs : List Value} (h : w.ownsRow b e size v n xs) (q : Nat) : (w.drewN q).ownsRow b e size v n xs := own_keptS h fun k _ hk => (below_drewN (Below.refl w.heap.size w) q).block k hk
/-- mappings whose numbers the law takes -/
def Small19 (l : List Map19) : Prop := ∀ x ∈ l, 0 ≤ x.1 ∧ x.1 ≤ 281474976710655 ∧ 0 ≤ x.2.1 ∧ x.2.1 ≤ 281474976710655
theorem of19_length : ∀ l : List Map19, (of19 l).length ≤ l.length := fun l => by
  induction hn : l.length generalizing l with
  | zero => rw [List.eq_nil_of_length_eq_zero hn]; exact Nat.le_refl _
  | succ k ih =>
    obtain ⟨r, x, rfl⟩ : ∃ r x, l = r ++ [x] := ⟨l.dropLast, l.getLast (by intro e; rw [e] at hn; simp at hn), (List.dropLast_concat_getLast _).symm⟩
    have h1 := ih r (by simpa using hn)
    have h2 := addR19_length (of19 r) (one19 x)
    rw [of19_snoc]
    unfold addM19
    omega

set_option maxRecDepth 100000 in
set_option maxHeartbeats 6400000 in
theorem refOf_any19 (l : List Map19) (A : Option Addr) (n c : Nat) (w : World) (h : Trs w A n c l) (hn : n ≤ 1000000) (hsm : Small19 l) :
    Calls Try.prog 11 #[.slice A n c] w fun e w' => ∃ A' c', e = .returned (.slice A' (of19 l).length c') ∧ Rns w' A' (of19 l).length c' (of19 l) ∧ Below w.heap.size w w' := by
  have hl := h.len
  obtain ⟨M0, hM0⟩ : ∃ M0, (of19 l).length = M0 := ⟨_, rfl⟩
  rw [hM0]
  have HM0 := Lib.hid hM0
  clear hM0
  have HD := Lib.hid h
  have SM : Hid (∀ k, k < n → 0 ≤ (l.getD k zeroM19).1 ∧ (l.getD k zeroM19).1 ≤ 281474976710655 ∧ 0 ≤ (l.getD k zeroM19).2.1 ∧ (l.getD k zeroM19).2.1 ≤ 281474976710655) := fun k hk => by
    have hkl : k < l.length := by omega
    rw [getD19 hkl]
    exact hsm _ (List.getElem_mem hkl)
  have PC : Hid (∀ (i k : Nat) (v b t : Int), i + (k + 1) ≤ n → (∀ j, j < k + 1 → l.getD (i + j) zeroM19 = (v + (j : Int), b + (j : Int), t)) → (∀ a, (of19 (l.take i)).getLast? = some a → ¬ cont19 a (one19 (v, b, t))) → of19 (l.take (i + (k + 1))) = of19 (l.take i) ++ [⟨v, b, (k : Int) + 1, t⟩]) := fun i k v b t hk hj hc => of19_piece (by omega) hj (fun a ha => hc a ha)
  have FEW : Hid (∀ i, (of19 (l.take i)).length ≤ n) := fun i => by
    have := of19_length (l.take i)
    rw [List.length_take] at this
    show (of19 (l.take i)).length ≤ n
    omega
  have ALL : Hid (of19 (l.take n) = of19 l) := by rw [List.take_of_length_le (by omega)]; exact Lib.hid rfl
  clear h hsm
  go_enter Try.func11, Try.ntmps11
  go_wp2
  go_loopw [3, 4] (fun v i wr => ∃ (k : Nat), k ≤ n ∧ i = .int .i64 k ∧ Hid (wr.ownsRow w.heap.size 41 4 v (of19 (l.take k)).length (runC (of19 (l.take k)))) ∧ Hid (Below w.heap.size w wr) ∧ Hid (k < n → ∀ a, (of19 (l.take k)).getLast? = some a → ¬ cont19 a (one19 (l.getD k zeroM19)))) (fun _ i _ => n - (intOf i).toNat)
  case atStart => exact ⟨0, by omega, rfl, World.ownsRow_nil _ _ _ _, Below.refl _ _, fun _ a ha => by simp [of19] at ha⟩
  case round =>
    obtain ⟨i, hi, rfl, hO, hbel, hC⟩ := hrel
    by_cases hlt : i < n
    · obtain ⟨b, off, v, bb, t, rfl, hb, hx, d0, d1, d2⟩ := trs_at19 HD.out hlt
      have hsm := SM.out i hlt
      have hC' := Lib.hid (hC.out hlt)
      rw [hx] at hsm hC'
      replace hsm : 0 ≤ v ∧ v ≤ 281474976710655 ∧ 0 ≤ bb ∧ bb ≤ 281474976710655 := hsm
      obtain ⟨z1, z2, z3, z4⟩ := hsm
      have HX := Lib.hid hx
      have hfew := FEW.out i
      clear hx hC
      generalize hml : (of19 (l.take i)).length = ml at *
      have HML := Lib.hid hml
      have hby : (ml + 1) * 32 ≤ 140737488355328 := Nat.le_trans (Nat.mul_le_mul_right 32 (Nat.succ_le_succ (Nat.le_trans hfew hn))) (by decide)
      have HBY := Lib.hid hby
      clear hby
      clear hml
      go_wp2
      go_loopw [5] (fun u wr => ∃ (k : Nat), i + (k + 1) ≤ n ∧ u = .int .i64 ((k + 1 : Nat) : Int) ∧ Hid (wr.ownsRow w.heap.size 41 4 u3 ml (runC (of19 (l.take i)))) ∧ Hid (Below w.heap.size w wr) ∧ Hid (∀ j, j < k + 1 → l.getD (i + j) zeroM19 = (v + (j : Int), bb + (j : Int), t))) (fun u _ => n + 1 - (intOf u).toNat)
      case atStart => exact ⟨0, by omega, rfl, hO, hbel, fun j hj => (by obtain rfl : j = 0 := (by omega); simpa using HX.out)⟩
      case round =>
        clear hO hbel
        obtain ⟨k, hk, rfl, hO, hbel, hJ⟩ := hrel
        obtain ⟨K, hK⟩ : ∃ K, K = k + 1 := ⟨_, rfl⟩
        rw [← hK] at hk ⊢
        have HK := Lib.hid hK
        have hK1 : 1 ≤ K := by omega
        have hKn : K ≤ 1000000 := by omega
        have hKn2 : K ≤ n := Nat.le_trans (Nat.le_add_left K i) hk
        have HMS := Lib.hid (Nat.sub_lt_sub_left (Nat.lt_succ_of_le hKn2) (Nat.lt_succ_self K))
        clear hK
        have g0 := (hbel.out.cell (p := ⟨b, off + i * 3, none⟩) hb).trans d0
        have g1 := (hbel.out.cell (p := ⟨b, off + i * 3 + 1, none⟩) hb).trans d1
        have g2 := (hbel.out.cell (p := ⟨b, off + i * 3 + 2, none⟩) hb).trans d2
        have hs : w.heap.size ≤ wr.heap.size := hbel.out.size
        have PCk : Hid (of19 (l.take (i + K)) = of19 (l.take i) ++ [⟨v, bb, (K : Int), t⟩]) := by
          have := PC.out i k v bb t (by have := HK.out; omega) hJ.out hC'.out
          rw [HK.out]
          exact Lib.hid (by simpa using this)
        have hwi : IntKind.i64.wrap ((i : Int) + (K : Int)) = ((i + K : Nat) : Int) := (IntWalk.i64_in _ (by omega)).trans (by push_cast; rfl)
        have hwi2 : wrap64 ((i : Int) + (K : Int)) = ((i + K : Nat) : Int) := by rw [← IntWalk.i64_left]; exact hwi
        obtain ⟨q, hq⟩ : ∃ q, q = i + K := ⟨_, rfl⟩
        rw [← hq] at hwi hwi2 PCk hk
        have HQ := Lib.hid hq
        have hiq : i < q := by rw [hq]; exact Nat.lt_add_of_pos_right hK1
        have HIQ := Lib.hid (And.intro hk (Nat.sub_lt_sub_left hlt hiq))
        clear hiq
        clear hq
        have NXT : Hid (∀ A6 c6 (W : World) (o : Value), W.ownsRow w.heap.size 41 4 o (ml + 1) (runC (of19 (l.take i)) ++ [.int .i64 v, .int .i64 bb, .int .i64 (K : Int), .int .i64 t]) → (q < n → ¬ ((l.getD q zeroM19).1 = v + (K : Int) ∧ (l.getD q zeroM19).2.1 = bb + (K : Int) ∧ (l.getD q zeroM19).2.2 = t)) → A6 = c6 → W.ownsRow w.heap.size 41 4 o (of19 (l.take q)).length (runC (of19 (l.take q))) ∧ (q < n → ∀ a, (of19 (l.take q)).getLast? = some a → ¬ cont19 a (one19 (l.getD q zeroM19)))) := fun (A6 c6 : Nat) W o ho hne _ => by
          rw [PCk.out]
          refine ⟨by rw [List.length_append, runC_append, HML.out]; exact ho, fun hqn a ha => ?_⟩
          rw [List.getLast?_append] at ha
          simp only [List.getLast?_singleton, Option.some_or, Option.some.injEq] at ha
          subst ha
          rintro ⟨h1, h2, h3⟩
          exact hne hqn ⟨h1.symm, h2.symm, h3.symm⟩
        by_cases hqn : q < n
        · obtain ⟨b2, off2, y0, y1, y2, e5, _, hy, s0, s1, s2⟩ := trs_at19 HD.out hqn
          cases e5
          have j0 := (hbel.out.cell (p := ⟨b, off + q * 3, none⟩) hb).trans s0
          have j1 := (hbel.out.cell (p := ⟨b, off + q * 3 + 1, none⟩) hb).trans s1
          have j2 := (hbel.out.cell (p := ⟨b, off + q * 3 + 2, none⟩) hb).trans s2
          rw [hy] at NXT
          obtain ⟨vk, hvk⟩ : ∃ vk, v + (K : Int) = vk := ⟨_, rfl⟩
          obtain ⟨bk, hbk⟩ : ∃ bk, bb + (K : Int) = bk := ⟨_, rfl⟩
          have hwv : IntKind.i64.wrap (v + (K : Int)) = vk := (IntWalk.i64_in _ (by omega)).trans hvk
          have hwb : IntKind.i64.wrap (bb + (K : Int)) = bk := (IntWalk.i64_in _ (by omega)).trans hbk
          rw [hvk, hbk] at NXT
          have HVK := Lib.hid hvk
          have HBK := Lib.hid hbk
          have HY := Lib.hid hy
          have hqd : decide (q < n) = true := by simpa using hqn
          clear s0 s1 s2 hvk hbk hy
          by_cases e0 : y0 = vk
          · by_cases e1 : y1 = bk
            · by_cases e2 : y2 = t
              · have HJ2 : Hid (∀ j, j < K + 1 → l.getD (i + j) zeroM19 = (v + (j : Int), bb + (j : Int), t)) := fun j hj => by
                  by_cases ej : j = K
                  · rw [ej, ← HQ.out, HY.out, e0, e1, e2, ← HVK.out, ← HBK.out]
                  · exact hJ.out j (by have := HK.out; omega)
                subst e0 e1 e2
                clear NXT PCk
                go_wp2
                go_quiet (fail)
                go_wp2
                go_roundw
                case rel => exact ⟨K, (by rw [← Nat.add_assoc, ← HQ.out]; exact hqn), by push_cast; rfl, by have := ownsRow_drewN19 hO.out nq; exact this, below_drewN hbel.out _, HJ2⟩
                case measure => (simp only [intOf, Int.toNat_natCast]; exact HMS.out)
              · have hne2 : (y2 == t) = false := by simpa using e2
                have HNE := Lib.hid (fun (_ : q < n) (hh : y0 = vk ∧ y1 = bk ∧ y2 = t) => e2 hh.2.2)
                subst e0 e1
                clear e2
                clear PCk
                go_wp2
                go_quiet (fail)
                have hOV := ownsRow_drewN19 hO.out nq
                have hbV := below_drewN hbel.out nq
                generalize wr.drewN nq = V at *
                have k0 := (hbV.cell (p := ⟨b, off + i * 3, none⟩) hb).trans d0
                have k1 := (hbV.cell (p := ⟨b, off + i * 3 + 1, none⟩) hb).trans d1
                have k2 := (hbV.cell (p := ⟨b, off + i * 3 + 2, none⟩) hb).trans d2
                have HNew := Lib.hid (Row.of_block (heap_alloc_new V (.cells #[.int .i64 v, .int .i64 bb, .int .i64 (K : Int), .int .i64 t] 41)))
                have HOV := Lib.hid hOV
                have hsV : w.heap.size ≤ V.heap.size := hbV.size
                have HBV := Lib.hid hbV
                clear hOV hbV hO hbel g0 g1 g2
                go_wp2
                go_region_held3 (fun W => W.cell? ⟨b, off + i * 3, none⟩ = some (.int .i64 v) ∧ W.cell? ⟨b, off + i * 3 + 1, none⟩ = some (.int .i64 bb) ∧ W.cell? ⟨b, off + i * 3 + 2, none⟩ = some (.int .i64 t))
                  (first | assumption | go_keep)
                  ((refine step_append_rowG _ rfl _ _ 26 rfl w.heap.size 41 4 _ 32 Try.underlying26 info_run19 rfl (by decide) _ ml _ rfl ((HOV.out.alloc _).drew) (by simp; omega) ⟨V.heap.size, 0, none⟩ [.int .i64 v, .int .i64 bb, .int .i64 (K : Int), .int .i64 t] 1 1 rfl rfl HNew.out (runC_one [⟨v, bb, (K : Int), t⟩]) HBY.out (by decide) ?_; intro v6 w6 hown6 hg6; have hb6 : Below w.heap.size w w6 := ((HBV.out.alloc hsV _).drew).grown hg6.out (by simp; omega) (fun q e => (own_apartS HOV.out q e).1); have e0 := (hb6.cell (p := ⟨b, off + i * 3, none⟩) hb).trans d0; have e1 := (hb6.cell (p := ⟨b, off + i * 3 + 1, none⟩) hb).trans d1; have e2 := (hb6.cell (p := ⟨b, off + i * 3 + 2, none⟩) hb).trans d2; have HB6 := Lib.hid hb6; clear hb6))
                have HFIN := Lib.hid (NXT.out 0 0 w6 v6 hown6.out HNE.out rfl)
                clear NXT HNE hown6 hg6
                go_wp2
                go_roundw
                case rel => exact ⟨q, HIQ.out.1, rfl, HFIN.out.1, HB6, by first | exact HFIN.out.2 | (rw [HY.out]; exact HFIN.out.2)⟩
                case measure => (simp only [intOf, Int.toNat_natCast]; exact HIQ.out.2)
            · have hne1 : (y1 == bk) = false := by simpa using e1
              have HNE := Lib.hid (fun (_ : q < n) (hh : y0 = vk ∧ y1 = bk ∧ y2 = t) => e1 hh.2.1)
              subst e0
              clear e1
              clear PCk
              go_wp2
              go_quiet (fail)
              have hOV := ownsRow_drewN19 hO.out nq
              have hbV := below_drewN hbel.out nq
              generalize wr.drewN nq = V at *
              have k0 := (hbV.cell (p := ⟨b, off + i * 3, none⟩) hb).trans d0
              have k1 := (hbV.cell (p := ⟨b, off + i * 3 + 1, none⟩) hb).trans d1
              have k2 := (hbV.cell (p := ⟨b, off + i * 3 + 2, none⟩) hb).trans d2
              have HNew := Lib.hid (Row.of_block (heap_alloc_new V (.cells #[.int .i64 v, .int .i64 bb, .int .i64 (K : Int), .int .i64 t] 41)))
              have HOV := Lib.hid hOV
              have hsV : w.heap.size ≤ V.heap.size := hbV.size
              have HBV := Lib.hid hbV
              clear hOV hbV hO hbel g0 g1 g2
              go_wp2
              go_region_held3 (fun W => W.cell? ⟨b, off + i * 3, none⟩ = some (.int .i64 v) ∧ W.cell? ⟨b, off + i * 3 + 1, none⟩ = some (.int .i64 bb) ∧ W.cell? ⟨b, off + i * 3 + 2, none⟩ = some (.int .i64 t))
                (first | assumption | go_keep)
                ((refine step_append_rowG _ rfl _ _ 26 rfl w.heap.size 41 4 _ 32 Try.underlying26 info_run19 rfl (by decide) _ ml _ rfl ((HOV.out.alloc _).drew) (by simp; omega) ⟨V.heap.size, 0, none⟩ [.int .i64 v, .int .i64 bb, .int .i64 (K : Int), .int .i64 t] 1 1 rfl rfl HNew.out (runC_one [⟨v, bb, (K : Int), t⟩]) HBY.out (by decide) ?_; intro v6 w6 hown6 hg6; have hb6 : Below w.heap.size w w6 := ((HBV.out.alloc hsV _).drew).grown hg6.out (by simp; omega) (fun q e => (own_apartS HOV.out q e).1); have e0 := (hb6.cell (p := ⟨b, off + i * 3, none⟩) hb).trans d0; have e1 := (hb6.cell (p := ⟨b, off + i * 3 + 1, none⟩) hb).trans d1; have e2 := (hb6.cell (p := ⟨b, off + i * 3 + 2, none⟩) hb).trans d2; have HB6 := Lib.hid hb6; clear hb6))
              have HFIN := Lib.hid (NXT.out 0 0 w6 v6 hown6.out HNE.out rfl)
              clear NXT HNE hown6 hg6
              go_wp2
              go_roundw
              case rel => exact ⟨q, HIQ.out.1, rfl, HFIN.out.1, HB6, by first | exact HFIN.out.2 | (rw [HY.out]; exact HFIN.out.2)⟩
              case measure => (simp only [intOf, Int.toNat_natCast]; exact HIQ.out.2)
          · have hne0 : (y0 == vk) = false := by simpa using e0
            have HNE := Lib.hid (fun (_ : q < n) (hh : y0 = vk ∧ y1 = bk ∧ y2 = t) => e0 hh.1)
            clear e0
            clear PCk
            go_wp2
            go_quiet (fail)
            have hOV := ownsRow_drewN19 hO.out nq
            have hbV := below_drewN hbel.out nq
            generalize wr.drewN nq = V at *
            have k0 := (hbV.cell (p := ⟨b, off + i * 3, none⟩) hb).trans d0
            have k1 := (hbV.cell (p := ⟨b, off + i * 3 + 1, none⟩) hb).trans d1
            have k2 := (hbV.cell (p := ⟨b, off + i * 3 + 2, none⟩) hb).trans d2
            have HNew := Lib.hid (Row.of_block (heap_alloc_new V (.cells #[.int .i64 v, .int .i64 bb, .int .i64 (K : Int), .int .i64 t] 41)))
            have HOV := Lib.hid hOV
            have hsV : w.heap.size ≤ V.heap.size := hbV.size
            have HBV := Lib.hid hbV
            clear hOV hbV hO hbel g0 g1 g2
            go_wp2
            go_region_held3 (fun W => W.cell? ⟨b, off + i * 3, none⟩ = some (.int .i64 v) ∧ W.cell? ⟨b, off + i * 3 + 1, none⟩ = some (.int .i64 bb) ∧ W.cell? ⟨b, off + i * 3 + 2, none⟩ = some (.int .i64 t))
              (first | assumption | go_keep)
              ((refine step_append_rowG _ rfl _ _ 26 rfl w.heap.size 41 4 _ 32 Try.underlying26 info_run19 rfl (by decide) _ ml _ rfl ((HOV.out.alloc _).drew) (by simp; omega) ⟨V.heap.size, 0, none⟩ [.int .i64 v, .int .i64 bb, .int .i64 (K : Int), .int .i64 t] 1 1 rfl rfl HNew.out (runC_one [⟨v, bb, (K : Int), t⟩]) HBY.out (by decide) ?_; intro v6 w6 hown6 hg6; have hb6 : Below w.heap.size w w6 := ((HBV.out.alloc hsV _).drew).grown hg6.out (by simp; omega) (fun q e => (own_apartS HOV.out q e).1); have e0 := (hb6.cell (p := ⟨b, off + i * 3, none⟩) hb).trans d0; have e1 := (hb6.cell (p := ⟨b, off + i * 3 + 1, none⟩) hb).trans d1; have e2 := (hb6.cell (p := ⟨b, off + i * 3 + 2, none⟩) hb).trans d2; have HB6 := Lib.hid hb6; clear hb6))
            have HFIN := Lib.hid (NXT.out 0 0 w6 v6 hown6.out HNE.out rfl)
            clear NXT HNE hown6 hg6
            go_wp2
            go_roundw
            case rel => exact ⟨q, HIQ.out.1, rfl, HFIN.out.1, HB6, by first | exact HFIN.out.2 | (rw [HY.out]; exact HFIN.out.2)⟩
            case measure => (simp only [intOf, Int.toNat_natCast]; exact HIQ.out.2)
        · have hqd : decide (q < n) = false := by simpa using hqn
          have HNE := Lib.hid (fun (hh : q < n) (_ : (l.getD q zeroM19).1 = v + (K : Int) ∧ (l.getD q zeroM19).2.1 = bb + (K : Int) ∧ (l.getD q zeroM19).2.2 = t) => hqn hh)
          clear PCk
          go_wp2
          go_quiet (fail)
          have hOV := ownsRow_drewN19 hO.out nq
          have hbV := below_drewN hbel.out nq
          generalize wr.drewN nq = V at *
          have k0 := (hbV.cell (p := ⟨b, off + i * 3, none⟩) hb).trans d0
          have k1 := (hbV.cell (p := ⟨b, off + i * 3 + 1, none⟩) hb).trans d1
          have k2 := (hbV.cell (p := ⟨b, off + i * 3 + 2, none⟩) hb).trans d2
          have HNew := Lib.hid (Row.of_block (heap_alloc_new V (.cells #[.int .i64 v, .int .i64 bb, .int .i64 (K : Int), .int .i64 t] 41)))
          have HOV := Lib.hid hOV
          have hsV : w.heap.size ≤ V.heap.size := hbV.size
          have HBV := Lib.hid hbV
          clear hOV hbV hO hbel g0 g1 g2
          go_wp2
          go_region_held3 (fun W => W.cell? ⟨b, off + i * 3, none⟩ = some (.int .i64 v) ∧ W.cell? ⟨b, off + i * 3 + 1, none⟩ = some (.int .i64 bb) ∧ W.cell? ⟨b, off + i * 3 + 2, none⟩ = some (.int .i64 t))
            (first | assumption | go_keep)
            ((refine step_append_rowG _ rfl _ _ 26 rfl w.heap.size 41 4 _ 32 Try.underlying26 info_run19 rfl (by decide) _ ml _ rfl ((HOV.out.alloc _).drew) (by simp; omega) ⟨V.heap.size, 0, none⟩ [.int .i64 v, .int .i64 bb, .int .i64 (K : Int), .int .i64 t] 1 1 rfl rfl HNew.out (runC_one [⟨v, bb, (K : Int), t⟩]) HBY.out (by decide) ?_; intro v6 w6 hown6 hg6; have hb6 : Below w.heap.size w w6 := ((HBV.out.alloc hsV _).drew).grown hg6.out (by simp; omega) (fun q e => (own_apartS HOV.out q e).1); have e0 := (hb6.cell (p := ⟨b, off + i * 3, none⟩) hb).trans d0; have e1 := (hb6.cell (p := ⟨b, off + i * 3 + 1, none⟩) hb).trans d1; have e2 := (hb6.cell (p := ⟨b, off + i * 3 + 2, none⟩) hb).trans d2; have HB6 := Lib.hid hb6; clear hb6))
          have HFIN := Lib.hid (NXT.out 0 0 w6 v6 hown6.out HNE.out rfl)
          clear NXT HNE hown6 hg6
          go_wp2
          go_roundw
          case rel => exact ⟨q, HIQ.out.1, rfl, HFIN.out.1, HB6, by first | exact HFIN.out.2 | (rw [HY.out]; exact HFIN.out.2)⟩
          case measure => (simp only [intOf, Int.toNat_natCast]; exact HIQ.out.2)
    · obtain rfl : i = n := by omega
      rw [ALL.out, HM0.out] at hO
      obtain ⟨A', c', hv5, hT⟩ := Rns.of_own hO.out
      have HT := Lib.hid hT
      clear hT hO
      subst hv5
      go_wp2
      go_ret
      exact ⟨A', c', rfl, HT.out, hbel.out⟩
end Go.Proofs.Ytccippplpcjaiaa

/-
  Layer 19: the reference's Maps and Merge of any runs.
-/
namespace Go.Proofs.Ytccippplpcjaiaa
open Go.RowKit
set_option linter.unusedVariables false
set_option linter.unusedSimpArgs false

/-- the numbers of runs -/
def Bd19 (l : List Run19) : Prop := ∀ q ∈ l, (-9223372036854775808 ≤ q.v ∧ q.v ≤ 9223372036854775807) ∧ (-9223372036854775808 ≤ q.b ∧ q.b ≤ 9223372036854775807) ∧ (-9223372036854775808 ≤ q.n ∧ q.n ≤ 9223372036854775807) ∧ (-9223372036854775808 ≤ q.t ∧ q.t ≤ 9223372036854775807)
theorem mapL19_good {l : List Run19} (h : chkE19 0 none l = 0) : Small19 (mapL19 l) ∧ (mapL19 l).length ≤ 16384 := by
  obtain ⟨hin, _, hlen⟩ := (chk19_good (chk19_pos h)).1 h
  have e : mapL19 l = maps19 l := if_pos h
  rw [e]
  exact ⟨fun x hx => by have := hin x hx; unfold InR19 at this; omega, hlen⟩
theorem refMaps_any19 (l : List Run19) (A : Option Addr) (n c : Nat) (w : World) (h : Rns w A n c l) (hbd : Bd19 l) :
    Calls Try.prog 13 #[.slice A n c] w fun e w' => ∃ A' c', e = .returned (.tuple #[.slice A' (mapL19 l).length c', .int .i64 (chkE19 0 none l)]) ∧ Trs w' A' (mapL19 l).length c' (mapL19 l) ∧ Below w.heap.size w w' := by
  by_cases hv : chkE19 0 none l = 0
  · have e : mapL19 l = maps19 l := if_pos hv
    rw [e, hv]
    exact refMaps_good19 l A n c w h hbd hv
  · have e : mapL19 l = [] := if_neg hv
    rw [e]
    exact (refMaps_bad19 l A n c w h hbd hv).mono fun e w' ⟨h1, h2⟩ => ⟨none, 0, h1, Trs.nil _, h2⟩
/-- what Merge answers -/
def merL19 (l : List Run19) : List Run19 := if chkE19 0 none l = 0 then merge19 l else []

set_option maxRecDepth 100000 in
set_option maxHeartbeats 1600000 in
theorem refMerge_any19 (l : List Run19) (A : Option Addr) (n c : Nat) (w : World) (h : Rns w A n c l) (hbd : Bd19 l) :
    Calls Try.prog 18 #[.slice A n c] w fun e w' => ∃ A' c', e = .returned (.slice A' (merL19 l).length c') ∧ Rns w' A' (merL19 l).length c' (merL19 l) ∧ Below w.heap.size w w' := by
  have MP := Lib.hid (refMaps_any19 l A n c w h hbd)
  by_cases hv : chkE19 0 none l = 0
  · have e2 : merL19 l = of19 (mapL19 l) := by rw [merL19, if_pos hv, merge19_of (chk19_pos hv), mapL19, if_pos hv]
    rw [e2]
    rw [hv] at MP
    obtain ⟨hsm, hfew⟩ := mapL19_good hv
    have OF : Hid (∀ W A' c', Below w.heap.size w W → Trs W A' (mapL19 l).length c' (mapL19 l) → Calls Try.prog 11 #[.slice A' (mapL19 l).length c'] W fun e w' => ∃ A2 c2, e = .returned (.slice A2 (of19 (mapL19 l)).length c2) ∧ Rns w' A2 (of19 (mapL19 l)).length c2 (of19 (mapL19 l)) ∧ Below w.heap.size w w') := fun W A' c' hW hT => (refOf_any19 (mapL19 l) A' _ c' W hT (by omega) hsm).mono fun e w' ⟨A2, c2, h1, h2, h3⟩ => ⟨A2, c2, h1, h2, hW.trans (h3.mono hW.size)⟩
    clear h hbd hv e2 hsm hfew
    generalize (mapL19 l).length = m at *
    go_enter Try.func18, Try.ntmps18
    go_wp2_with (first
      | (go_at_call 13; (with_reducible refine (MP.out).mono ?_); rintro e w1 ⟨A1, c1, rfl, hT, hb1⟩; have HT := Lib.hid hT; have HB1 := Lib.hid hb1; clear hT hb1)
      | (go_at_call 11; (with_reducible refine (OF.out _ _ _ HB1.out HT.out).mono ?_); rintro e w2 ⟨A2, c2, rfl, hR, hb2⟩; have HR := Lib.hid hR; have HB2 := Lib.hid hb2; clear hR hb2))
    go_ret
    exact ⟨_, _, rfl, HR.out, HB2.out⟩
  · have e2 : merL19 l = [] := if_neg hv
    rw [e2]
    have hyb : (chkE19 0 none l != 0) = true := by simpa using hv
    clear h hbd hv e2
    generalize chkE19 0 none l = y at *
    generalize (mapL19 l).length = m at *
    go_enter Try.func18, Try.ntmps18
    go_wp2_with (go_at_call 13; (with_reducible refine (MP.out).mono ?_); rintro e w1 ⟨A1, c1, rfl, hT, hb1⟩; have HB1 := Lib.hid hb1; clear hT hb1)
    go_ret
    exact ⟨none, 0, rfl, Rns.nil _, HB1.out⟩
end Go.Proofs.Ytccippplpcjaiaa

/-
  Layer 19: the program's continues and bounded.
-/
namespace Go.Proofs.Ytccippplpcjaiaa
open Go.RowKit
set_option linter.unusedVariables false
set_option linter.unusedSimpArgs false

/-- a run as a value -/
def runV19 (r : Run19) : Value := .agg #[.int .i64 r.v, .int .i64 r.b, .int .i64 r.n, .int .i64 r.t]

set_option maxRecDepth 100000 in
set_option maxHeartbeats 800000 in
theorem continues_any19 (a r : Run19) (w : World) (hv : -9223372036854775808 ≤ a.v + a.n ∧ a.v + a.n ≤ 9223372036854775807) (hb : -9223372036854775808 ≤ a.b + a.n ∧ a.b + a.n ≤ 9223372036854775807) (q : Bool) (hq : decide (cont19 a r) = q) :
    Calls Try.prog 22 #[runV19 r, runV19 a] w fun e w' => e = .returned (.bool q) ∧ Below w.heap.size w w' := by
  obtain ⟨av, ab, an, at'⟩ := a
  obtain ⟨rv, rb, rn, rt⟩ := r
  unfold runV19
  replace hq : decide (av + an = rv ∧ ab + an = rb ∧ at' = rt) = q := hq
  dsimp only at hv hb
  obtain ⟨sv, hsv⟩ : ∃ s, av + an = s := ⟨_, rfl⟩
  obtain ⟨sb, hsb⟩ : ∃ s, ab + an = s := ⟨_, rfl⟩
  have hwv : IntKind.i64.wrap (av + an) = sv := (IntWalk.i64_in _ (by omega)).trans hsv
  have hwb : IntKind.i64.wrap (ab + an) = sb := (IntWalk.i64_in _ (by omega)).trans hsb
  rw [hsv, hsb] at hq
  have HB : Hid (Below w.heap.size w ((w.alloc (.cells #[.int .i64 rv, .int .i64 rb, .int .i64 rn, .int .i64 rt] 41)).alloc (.cells #[.int .i64 av, .int .i64 ab, .int .i64 an, .int .i64 at'] 41))) := ((Below.refl _ _).alloc (Nat.le_refl _) _).alloc (by simp) _
  clear hsv hsb hv hb
  by_cases h1 : rv = sv
  · by_cases h2 : rb = sb
    · by_cases h3 : rt = at'
      · obtain rfl : q = true := by rw [← hq]; simp [h1, h2, h3]
        clear hq
        subst h1 h2 h3
        go_enter Try.func22, Try.ntmps22
        go_wp2
        go_ret
        exact ⟨rfl, HB.out⟩
      · obtain rfl : q = false := by rw [← hq]; simp; intro _ _ e; exact h3 e.symm
        clear hq
        have h3b : (rt == at') = false := by simpa using h3
        subst h1 h2
        clear h3
        go_enter Try.func22, Try.ntmps22
        go_wp2
        go_ret
        exact ⟨rfl, HB.out⟩
    · obtain rfl : q = false := by rw [← hq]; simp; intro _ e; exact absurd e.symm h2
      clear hq
      have h2b : (rb == sb) = false := by simpa using h2
      subst h1
      clear h2
      go_enter Try.func22, Try.ntmps22
      go_wp2
      go_ret
      exact ⟨rfl, HB.out⟩
  · obtain rfl : q = false := by rw [← hq]; simp; intro e; exact absurd e.symm h1
    clear hq
    have h1b : (rv == sv) = false := by simpa using h1
    clear h1
    go_enter Try.func22, Try.ntmps22
    go_wp2
    go_ret
    exact ⟨rfl, HB.out⟩

/-- what bounded answers -/
def bnd19 (r : Run19) : Bool := decide (1 ≤ r.n ∧ 0 ≤ r.v ∧ r.v ≤ 281474976710656 - r.n ∧ 0 ≤ r.b ∧ r.b ≤ 65536 - r.n ∧ 0 ≤ r.t ∧ r.t ≤ 16777215)
theorem bnd19_runR {r : Run19} {all left : Int} (h : all + left = 16384) : runR19 all r = (bnd19 r && decide (r.n ≤ left)) := by
  unfold runR19 bnd19
  rw [Bool.eq_iff_iff]
  simp only [Bool.and_eq_true, decide_eq_true_eq]
  omega

set_option maxRecDepth 100000 in
set_option maxHeartbeats 1600000 in
theorem bounded_any19 (r : Run19) (w : World) (hn : -9223372036854775808 ≤ r.n ∧ r.n ≤ 9223372036854775807) (q : Bool) (hq : bnd19 r = q) :
    Calls Try.prog 20 #[runV19 r] w fun e w' => e = .returned (.bool q) ∧ Below w.heap.size w w' := by
  obtain ⟨v, b, n, t⟩ := r
  unfold runV19
  unfold bnd19 at hq
  dsimp only at *
  have HB : Hid (Below w.heap.size w (w.alloc (.cells #[.int .i64 v, .int .i64 b, .int .i64 n, .int .i64 t] 41))) := (Below.refl _ _).alloc (Nat.le_refl _) _
  by_cases h1 : 1 ≤ n
  · obtain ⟨sv, hsv⟩ : ∃ s, 281474976710656 - n = s := ⟨_, rfl⟩
    obtain ⟨sb, hsb⟩ : ∃ s, 65536 - n = s := ⟨_, rfl⟩
    have hwv : IntKind.i64.wrap (281474976710656 - n) = sv := (IntWalk.i64_in _ (by omega)).trans hsv
    have hwb : IntKind.i64.wrap (65536 - n) = sb := (IntWalk.i64_in _ (by omega)).trans hsb
    rw [hsv, hsb] at hq
    simp only [h1, true_and] at hq
    clear hsv hsb hn
    by_cases h2 : 0 ≤ v
    · by_cases h3 : v ≤ sv
      · by_cases h4 : 0 ≤ b
        · by_cases h5 : b ≤ sb
          · by_cases h6 : 0 ≤ t
            · by_cases h7 : t ≤ 16777215
              · obtain rfl : q = true := by rw [← hq]; simp [h2, h3, h4, h5, h6, h7]
                clear hq
                go_enter Try.func20, Try.ntmps20
                go_wp2
                go_ret
                exact ⟨rfl, HB.out⟩
              · obtain rfl : q = false := by rw [← hq]; simp [h7]
                clear hq
                go_enter Try.func20, Try.ntmps20
                go_wp2
                go_ret
                exact ⟨rfl, HB.out⟩
            · obtain rfl : q = false := by rw [← hq]; simp [h6]
              clear hq
              go_enter Try.func20, Try.ntmps20
              go_wp2
              go_ret
              exact ⟨rfl, HB.out⟩
          · obtain rfl : q = false := by rw [← hq]; simp [h5]
            clear hq
            go_enter Try.func20, Try.ntmps20
            go_wp2
            go_ret
            exact ⟨rfl, HB.out⟩
        · obtain rfl : q = false := by rw [← hq]; simp [h4]
          clear hq
          go_enter Try.func20, Try.ntmps20
          go_wp2
          go_ret
          exact ⟨rfl, HB.out⟩
      · obtain rfl : q = false := by rw [← hq]; simp [h3]
        clear hq
        go_enter Try.func20, Try.ntmps20
        go_wp2
        go_ret
        exact ⟨rfl, HB.out⟩
    · obtain rfl : q = false := by rw [← hq]; simp [h2]
      clear hq
      go_enter Try.func20, Try.ntmps20
      go_wp2
      go_ret
      exact ⟨rfl, HB.out⟩
  · obtain rfl : q = false := by rw [← hq]; simp [h1]
    clear hq hn
    go_enter Try.func20, Try.ntmps20
    go_wp2
    go_ret
    exact ⟨rfl, HB.out⟩
end Go.Proofs.Ytccippplpcjaiaa

/-
  Layer 19: the program's Check.
-/
namespace Go.Proofs.Ytccippplpcjaiaa
open Go.RowKit
set_option linter.unusedVariables false
set_option linter.unusedSimpArgs false

/-- the first virtual block behind the run ahead -/
def lst19 (l : List Run19) (k : Nat) : Int := if k = 0 then 0 else (l.getD (k - 1) zero19).v + (l.getD (k - 1) zero19).n
theorem lst19_succ (l : List Run19) (k : Nat) : lst19 l (k + 1) = (l.getD k zero19).v + (l.getD k zero19).n := by simp [lst19]
theorem runAt19_lst {l : List Run19} {k : Nat} (hr : runR19 (all19 (l.take k)) (l.getD k zero19) = true) : runAt19 0 none l k = if (l.getD k zero19).v < lst19 l k then 17 else 0 := by
  unfold runAt19 lst19
  rw [Int.zero_add, if_neg (by rw [hr]; decide)]
  by_cases hk : k = 0
  · subst hk
    have := (runR19_yes.1 hr).2.1
    rw [if_neg (by rintro ⟨a, e, _⟩; simp at e), if_pos rfl, if_neg (by omega)]
  · simp only [hk, if_false]
    by_cases hv : (l.getD k zero19).v < (l.getD (k - 1) zero19).v + (l.getD (k - 1) zero19).n
    · rw [if_pos ⟨_, rfl, hv⟩, if_pos hv]
    · rw [if_neg (by rintro ⟨a, e, h⟩; injection e with e; subst e; exact hv h), if_neg hv]

set_option maxRecDepth 100000 in
set_option maxHeartbeats 3200000 in
theorem Check_any19 (l : List Run19) (A : Option Addr) (n c : Nat) (w : World) (h : Rns w A n c l) (hbd : Bd19 l) :
    Calls Try.prog 15 #[.slice A n c] w fun e w' => e = .returned (.int .i64 (chkE19 0 none l)) ∧ Below w.heap.size w w' := by
  have hle : n ≤ 9223372036854775807 := Nat.le_trans h.cap h.most
  have hl := h.len
  have HD := Lib.hid h
  obtain ⟨R, hR⟩ : ∃ R, chkE19 0 none l = R := ⟨_, rfl⟩
  rw [hR]
  have BD : Hid (∀ k e, k < n → (∀ j, j < k → runAt19 0 none l j = 0) → runAt19 0 none l k = e → e ≠ 0 → R = e) := fun k e hk hj he h0 => by
    rw [← hR, chk19_bad (k := k) (by omega) hj (by rw [he]; exact h0), he]
  have EN : Hid ((∀ j, j < n → runAt19 0 none l j = 0) → R = 0) := fun hj => by rw [← hR]; exact chk19_ok (by rw [hl]; exact hj)
  have ST : Hid (∀ k, k < n → all19 (l.take (k + 1)) = all19 (l.take k) + (l.getD k zero19).n) := fun k hk => by rw [all19_take (by omega), getD19 (by omega)]
  have BDS : Hid (∀ k, k < n → -9223372036854775808 ≤ (l.getD k zero19).n ∧ (l.getD k zero19).n ≤ 9223372036854775807) := fun k hk => by
    have hkl : k < l.length := by omega
    rw [getD19 hkl]
    exact (hbd l[k] (List.getElem_mem hkl)).2.2.1
  clear h hR hbd
  go_enter Try.func15, Try.ntmps15
  go_wp2
  go_loopw [3, 4, 9] (fun lf ls i wr => ∃ (k : Nat), k ≤ n ∧ i = .int .i64 k ∧ lf = .int .i64 (16384 - all19 (l.take k)) ∧ ls = .int .i64 (lst19 l k) ∧ Hid (0 ≤ all19 (l.take k) ∧ all19 (l.take k) ≤ 16384) ∧ Hid (∀ j, j < k → runAt19 0 none l j = 0) ∧ Hid (Below w.heap.size w wr)) (fun _ _ i _ => n - (intOf i).toNat)
  case atStart => exact ⟨0, by omega, rfl, by simp [all19], by simp [lst19], ⟨by simp [all19], by simp [all19]⟩, fun j hj => by omega, Below.refl _ _⟩
  case round =>
    obtain ⟨k, hk, rfl, rfl, rfl, hs, hJ, hbel⟩ := hrel
    by_cases hlt : k < n
    · obtain ⟨b, off, r, rfl, hb, hx, hkl, d0, d1, d2, d3⟩ := rns_at HD.out hlt
      have g0 := (hbel.out.cell (p := ⟨b, off + k * 4, none⟩) hb).trans d0
      have g1 := (hbel.out.cell (p := ⟨b, off + k * 4 + 1, none⟩) hb).trans d1
      have g2 := (hbel.out.cell (p := ⟨b, off + k * 4 + 2, none⟩) hb).trans d2
      have g3 := (hbel.out.cell (p := ⟨b, off + k * 4 + 3, none⟩) hb).trans d3
      have hx : l.getD k zero19 = r := hx
      obtain ⟨bn1, bn2⟩ := BDS.out k hlt
      rw [hx] at bn1 bn2
      obtain ⟨hs1, hs2⟩ := hs.out
      have HST := ST.out k hlt
      have HL1 := lst19_succ l k
      have BAD : Hid (runR19 (all19 (l.take k)) r = false → R = 2) := fun e => BD.out k 2 hlt hJ.out (runAt19_bad (by rw [Int.zero_add, hx]; exact e)) (by decide)
      have OVR : Hid (runR19 (all19 (l.take k)) r = true → r.v < lst19 l k → R = 17) := fun e hv => BD.out k 17 hlt hJ.out (by rw [runAt19_lst (by rw [hx]; exact e), hx, if_pos hv]) (by decide)
      have NX : Hid (runR19 (all19 (l.take k)) r = true → ¬ r.v < lst19 l k → ∀ j, j < k + 1 → runAt19 0 none l j = 0) := fun e hv j hj => by
        by_cases ej : j = k
        · rw [ej, runAt19_lst (by rw [hx]; exact e), hx, if_neg hv]
        · exact hJ.out j (by omega)
      rw [hx] at HST HL1
      have HRB := bnd19_runR (r := r) (all := all19 (l.take k)) (left := 16384 - all19 (l.take k)) (by omega)
      obtain ⟨W1, hW1⟩ : ∃ W1, wr.alloc (.cells #[.int .i64 r.v, .int .i64 r.b, .int .i64 r.n, .int .i64 r.t] 41) = W1 := ⟨_, rfl⟩
      have hB1 : Below w.heap.size w W1 := by rw [← hW1]; exact hbel.out.alloc hbel.out.size _
      have hR1 : RunC19 W1 wr.heap.size r := by rw [← hW1]; exact heap_alloc_new wr _
      have hs4 : wr.heap.size < W1.heap.size := by rw [← hW1]; simp
      have HB1 := Lib.hid hB1
      obtain ⟨q, hq⟩ : ∃ q, bnd19 r = q := ⟨_, rfl⟩
      have BN : Hid (Calls Try.prog 20 #[.agg #[.int .i64 r.v, .int .i64 r.b, .int .i64 r.n, .int .i64 r.t]] W1 fun e w' => e = .returned (.bool q) ∧ Hid (Below w.heap.size w w') ∧ Hid (RunC19 w' wr.heap.size r)) := (bounded_any19 r W1 ⟨bn1, bn2⟩ q hq).mono fun e w' ⟨h1, h2⟩ => ⟨h1, HB1.out.trans (h2.mono HB1.out.size), (h2.block _ hs4).trans hR1⟩
      obtain ⟨p0, p1, p2, p3⟩ := hR1.cs
      rw [hq] at HRB
      have HHST := Lib.hid HST
      have HHL1 := Lib.hid HL1
      have HSZ := Lib.hid (show 1 ≤ r.n → r.n ≤ 16384 - all19 (l.take k) → 0 ≤ all19 (l.take k) + r.n ∧ all19 (l.take k) + r.n ≤ 16384 from fun _ _ => by omega)
      have HV := Lib.hid (show q = true → 1 ≤ r.n ∧ 0 ≤ r.v ∧ r.v + r.n ≤ 281474976710656 from fun e => by
        rw [e] at hq
        unfold bnd19 at hq
        have := of_decide_eq_true hq
        omega)
      clear d0 d1 d2 d3 hq hB1 hR1 HST HL1
      generalize all19 (l.take k) = s at *
      generalize lst19 l k = ls at *
      obtain ⟨v, b', n', t⟩ := r
      dsimp only at *
      cases q with
      | false =>
        obtain rfl : R = 2 := BAD.out (by rw [HRB]; rfl)
        clear BAD OVR NX BD EN ST BDS HRB
        go_wp2_with (go_at_call 20; (with_reducible refine (BN.out).mono ?_); rintro e w5 ⟨rfl, HB5, HR5⟩; obtain ⟨q0, q1, q2, q3⟩ := HR5.out.cs)
        go_ret
        exact ⟨rfl, HB5.out⟩
      | true =>
        obtain ⟨hn1, hv0, hv1⟩ := HV.out rfl
        by_cases hleft : 16384 - s < n'
        · obtain rfl : R = 2 := BAD.out (by rw [HRB, decide_eq_false (by omega)]; rfl)
          clear BAD OVR NX BD EN ST BDS HRB
          go_wp2_with (go_at_call 20; (with_reducible refine (BN.out).mono ?_); rintro e w5 ⟨rfl, HB5, HR5⟩; obtain ⟨q0, q1, q2, q3⟩ := HR5.out.cs)
          go_ret
          exact ⟨rfl, HB5.out⟩
        · have hrr : runR19 s ⟨v, b', n', t⟩ = true := by rw [HRB, decide_eq_true (by omega)]; rfl
          by_cases ho : v < ls
          · obtain rfl : R = 17 := OVR.out hrr ho
            clear BAD OVR NX BD EN ST BDS HRB hrr
            go_wp2_with (go_at_call 20; (with_reducible refine (BN.out).mono ?_); rintro e w5 ⟨rfl, HB5, HR5⟩; obtain ⟨q0, q1, q2, q3⟩ := HR5.out.cs)
            go_ret
            exact ⟨rfl, HB5.out⟩
          · have HNX := Lib.hid (NX.out hrr ho)
            have HSN := Lib.hid (HSZ.out hn1 (by omega))
            have hw1 : IntKind.i64.wrap (16384 - s - n') = 16384 - s - n' := IntWalk.i64_in _ (by have := HSN.out; omega)
            have hw2 : IntKind.i64.wrap (v + n') = v + n' := IntWalk.i64_in _ (by omega)
            clear BAD OVR NX BD EN ST BDS HRB hrr
            go_wp2_with (go_at_call 20; (with_reducible refine (BN.out).mono ?_); rintro e w5 ⟨rfl, HB5, HR5⟩; obtain ⟨q0, q1, q2, q3⟩ := HR5.out.cs)
            go_roundw
            all_goals first
              | exact ⟨k + 1, by omega, by push_cast; rfl, by rw [HHST.out]; congr 1; omega, by rw [HHL1.out], by rw [HHST.out]; exact HSN.out, HNX, HB5⟩
              | (simp only [intOf]; omega)
    · obtain rfl : k = n := by omega
      obtain rfl : R = 0 := EN.out hJ.out
      generalize all19 (l.take k) = s at *
      generalize lst19 l k = ls at *
      go_wp2
      go_ret
      exact ⟨rfl, hbel.out⟩
end Go.Proofs.Ytccippplpcjaiaa
