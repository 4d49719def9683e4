/-
  Joined: PgI.
-/
import Derived.Test.YtcmehjjaologpaaJSiz18
import Derived.Test.YtcmehjjaologpaaJSiz12
/-
  Layer 18: the iterator over all mappings, each with its index in its device.
-/
namespace Go.Proofs.Ytcmehjjaologpaa
open Go.RowKit Go.Shelf
set_option linter.unusedVariables false
set_option linter.unusedSimpArgs false
attribute [local go_sem] Oper.semAt_some

/-- mappings, each with its index -/
def num18 (l : List (Int × Int × Int)) : List (Nat × Int × Int × Int) := (List.range l.length).map fun k => (k, l.getD k (0, 0, 0))
def flat18 (ds : List Dev18) : List (Nat × Int × Int × Int) := ds.flatMap fun d => num18 d.maps
/-- those of the first i devices, and the first k of the next -/
def flatAt18 (ds : List Dev18) (i k : Nat) : List (Nat × Int × Int × Int) := flat18 (ds.take i) ++ (num18 (ds.getD i zero18).maps).take k
theorem num18_length (l : List (Int × Int × Int)) : (num18 l).length = l.length := by simp [num18]
theorem flat18_snoc (a : List Dev18) (d : Dev18) : flat18 (a ++ [d]) = flat18 a ++ num18 d.maps := by
  unfold flat18
  rw [List.flatMap_append, List.flatMap_singleton]
theorem flat18_length (ds : List Dev18) : (flat18 ds).length = cnt18 ds := by
  induction ds with
  | nil => rfl
  | cons d r ih => simp only [flat18, List.flatMap_cons, List.length_append, num18_length] at ih ⊢; rw [ih]; simp [cnt18]
theorem flatAt18_zero (ds : List Dev18) : flatAt18 ds 0 0 = [] := by simp [flatAt18, flat18]
theorem flatAt18_map {ds : List Dev18} {i k : Nat} (h : k < (ds.getD i zero18).maps.length) : flatAt18 ds i (k + 1) = flatAt18 ds i k ++ [(k, (ds.getD i zero18).maps.getD k (0, 0, 0))] := by
  unfold flatAt18
  generalize flat18 (ds.take i) = a
  generalize (ds.getD i zero18).maps = ms at *
  rw [List.take_succ_eq_append_getElem (by rw [num18_length]; exact h), ← List.append_assoc]
  simp [num18]
theorem flatAt18_next {ds : List Dev18} {i : Nat} (h : i < ds.length) : flatAt18 ds (i + 1) 0 = flatAt18 ds i (ds.getD i zero18).maps.length := by
  unfold flatAt18
  have e : (num18 ds[i].maps).take ds[i].maps.length = num18 ds[i].maps := List.take_of_length_le (by rw [num18_length]; exact Nat.le_refl _)
  rw [List.take_succ_eq_append_getElem h, flat18_snoc, getD18 h, List.take_zero, List.append_nil, e]
theorem flatAt18_all (ds : List Dev18) : flatAt18 ds ds.length 0 = flat18 ds := by simp [flatAt18]
/-- what lies ahead of a mapping's place begins the whole -/
theorem flatAt18_part {ds : List Dev18} {i k : Nat} (hi : i < ds.length) : ∃ r, flat18 ds = flatAt18 ds i k ++ r := by
  refine ⟨(num18 (ds.getD i zero18).maps).drop k ++ flat18 (ds.drop (i + 1)), ?_⟩
  have e : ds = ds.take i ++ (ds.getD i zero18 :: ds.drop (i + 1)) := by rw [getD18 hi, ← List.drop_eq_getElem_cons hi, List.take_append_drop]
  conv => lhs; rw [e]
  unfold flatAt18
  rw [List.append_assoc, ← List.append_assoc (List.take k _), List.take_append_drop]
  simp [flat18, List.flatMap_append, List.flatMap_cons]
theorem flatAt18_few {ds : List Dev18} {i k : Nat} (hi : i < ds.length) (hk : k < (ds.getD i zero18).maps.length) : (flatAt18 ds i k).length < cnt18 ds := by
  obtain ⟨r, hr⟩ := flatAt18_part (ds := ds) (k := k + 1) hi
  have := congrArg List.length hr
  rw [flat18_length, flatAt18_map hk] at this
  simp at this
  omega

/-- what a round is handed -/
def encM18 (x : Nat × Int × Int × Int) : Array Value := #[.int .i64 (x.1 : Int), .agg #[.int .i64 x.2.1, .int .i64 x.2.2.1, .int .i64 x.2.2.2]]

theorem KpR12.alloc {n₀ Bm : Nat} {W W' : World} (h : KpR12 n₀ Bm W W') (hn : n₀ ≤ W'.heap.size) (hB : Bm < W'.heap.size) (o : Obj) : KpR12 n₀ Bm W (W'.alloc o) :=
  ⟨h.1.alloc hn o, (Below.heap_alloc W' o Bm hB).trans h.2⟩

set_option maxRecDepth 100000 in
set_option maxHeartbeats 3200000 in
theorem all1_in (l Bp n₀ : Nat) (A : Option Addr) (n c : Nat) (ds : List Dev18) (J Jx : List (Nat × Int × Int × Int) → World → Prop)
    (u W : World) (hD : Dvs u A n c ds) (hu : u.heap.size ≤ n₀) (hub : Below u.heap.size u W) (hn0 : n₀ ≤ W.heap.size) (hc : Boxed W Bp 22 (.slice A n c))
    (hA : AbidesFrom W.heap.size J)
    (hY : ∀ (pre : List (Nat × Int × Int × Int)) (x : Nat × Int × Int × Int) W, J pre W → pre.length < cnt18 ds → YieldAt Fence.wide 0 Try.prog l (encM18 x) W fun e W' =>
      (e = .returned (.bool true) ∧ J (pre ++ [x]) W' ∧ KpR12 n₀ Bp W W') ∨ (e = .returned (.bool false) ∧ Jx (pre ++ [x]) W'))
    (h0 : J [] W) :
    CallsIn Fence.wide 1 Try.prog 45 #[.func (.yield l) #[] #[], .pointer (some ⟨Bp, 0, none⟩)] W fun e W' => (∃ v, e = .returned v) ∧
      ((∃ ys, ys = flat18 ds ∧ J ys W') ∨ (∃ pre, (∃ r, flat18 ds = pre ++ r) ∧ Jx pre W')) := by
  have hle : n ≤ 9223372036854775807 := Nat.le_trans hD.cap hD.most
  have hl := hD.len
  have hBl := hc.lt
  have HD := Lib.hid hD
  have HY := Lib.hid hY
  have HA := Lib.hid hA
  have hcc := hc.cell
  have HUB : Hid (∀ W', KpR12 n₀ Bp W W' → Below u.heap.size u W') := fun W' h => hub.trans (h.1.mono hu)
  have SN := Lib.hid (fun (i : Nat) (hi : i < n) => flatAt18_next (ds := ds) (i := i) (by omega))
  have SM := Lib.hid (fun (i k : Nat) => flatAt18_map (ds := ds) (i := i) (k := k))
  have SF := Lib.hid (fun (i k : Nat) (hi : i < n) => flatAt18_few (ds := ds) (i := i) (k := k) (by omega))
  have SP := Lib.hid (fun (i k : Nat) (hi : i < n) => flatAt18_part (ds := ds) (i := i) (k := k) (by omega))
  have SA : Hid (flatAt18 ds n 0 = flat18 ds) := by rw [← hl]; exact Lib.hid (flatAt18_all ds)
  have h00 : Hid (J (flatAt18 ds 0 0) W) := by rw [flatAt18_zero]; exact Lib.hid h0
  clear hD hY hA hub hc h0
  refine callsIn_of_wp Try.func45 rfl trivial ?_ rfl
  simp only [Try.ntmps45, List.size_toArray, List.length_cons, List.length_nil, Nat.reduceAdd, Nat.reduceSub, Array.replicate_succ, Array.replicate_zero, List.push_toArray, List.append_toArray, List.nil_append, List.cons_append]
  gi_wp2
  gi_loopw [9] (fun i wr => ∃ k : Nat, k ≤ n ∧ i = .int .i64 k ∧ Hid (J (flatAt18 ds k 0) wr) ∧ Hid (KpR12 n₀ Bp W wr))
    (fun i _ => n - (intOf i).toNat)
  case atStart => exact ⟨0, Nat.zero_le _, rfl, h00, KpR12.refl _ _ _⟩
  case round =>
    obtain ⟨i, hi, rfl, hJs, hnx⟩ := hrel
    by_cases hlt : i < n
    · obtain ⟨b, off, A', m, c', rfl, hb, d0, d1, d2, d3, d4, hT⟩ := HD.out.at18 hlt
      have hbel := Lib.hid (HUB.out wr hnx.out)
      have g0 := (hbel.out.cell (p := ⟨b, off + i * 5, none⟩) hb).trans d0
      have g1 := (hbel.out.cell (p := ⟨b, off + i * 5 + 1, none⟩) hb).trans d1
      have g2 := (hbel.out.cell (p := ⟨b, off + i * 5 + 2, none⟩) hb).trans d2
      have g3 := (hbel.out.cell (p := ⟨b, off + i * 5 + 3, none⟩) hb).trans d3
      have g4 := (hbel.out.cell (p := ⟨b, off + i * 5 + 4, none⟩) hb).trans d4
      have hml := hT.len
      have hme : m ≤ 9223372036854775807 := Nat.le_trans hT.cap hT.most
      have HT := Lib.hid hT
      have HN := Lib.hid (SN.out i hlt)
      have hsz : W.heap.size ≤ wr.heap.size := by
        have := hnx.out.1.size
        omega
      have HAL : Hid (∀ o, J (flatAt18 ds i 0) (wr.alloc o) ∧ KpR12 n₀ Bp W (wr.alloc o)) := fun o => ⟨HA.out _ wr _ none hJs.out (World.grownBy_alloc wr o none) (fun r e => by cases e), hnx.out.alloc (by omega) (by omega) o⟩
      clear d0 d1 d2 d3 d4 hT hbel
      generalize (ds.getD i zero18).id = x0 at *
      generalize (ds.getD i zero18).tx = x1 at *
      generalize (ds.getD i zero18).made = x2 at *
      generalize (ds.getD i zero18).snap = x3 at *
      gi_wp2
      gi_loopw [16] (fun i' wr' => ∃ k : Nat, k ≤ m ∧ i' = .int .i64 k ∧ Hid (J (flatAt18 ds i k) wr') ∧ Hid (KpR12 n₀ Bp W wr'))
        (fun i' _ => m - (intOf i').toNat)
      case atStart => exact ⟨0, Nat.zero_le _, rfl, (HAL.out _).1, (HAL.out _).2⟩
      case round =>
        clear hJs hnx g0 g1 g2 g3 g4 HAL hsz
        obtain ⟨k, hk, rfl, hJs, hnx⟩ := hrel
        by_cases hkm : k < m
        · obtain ⟨b2, off2, y0, y1, y2, rfl, hb2, hx, hkl, e0, e1, e2⟩ := trs_at18 HT.out hkm
          have hbel := HUB.out wr hnx.out
          have g0 := (hbel.cell (p := ⟨b2, off2 + k * 3, none⟩) hb2).trans e0
          have g1 := (hbel.cell (p := ⟨b2, off2 + k * 3 + 1, none⟩) hb2).trans e1
          have g2 := (hbel.cell (p := ⟨b2, off2 + k * 3 + 2, none⟩) hb2).trans e2
          have hsz : W.heap.size ≤ wr.heap.size := by
            have := hnx.out.1.size
            omega
          have hst := SM.out i k hkl
          rw [hx] at hst
          have HST := Lib.hid hst
          have hJa : J (flatAt18 ds i k) (wr.alloc (.cells #[.int .i64 y0, .int .i64 y1, .int .i64 y2] 38)) := HA.out _ wr _ none hJs.out (World.grownBy_alloc wr _ none) (fun r e => by cases e)
          have HKa : Hid (KpR12 n₀ Bp W (wr.alloc (.cells #[.int .i64 y0, .int .i64 y1, .int .i64 y2] 38))) := hnx.out.alloc (by omega) (by omega) _
          have HPF := Lib.hid (SP.out i (k + 1) hlt)
          have HYk := HY.out (flatAt18 ds i k) (k, y0, y1, y2) _ hJa (SF.out i k hlt hkl)
          rw [← hst] at HYk
          unfold encM18 at HYk
          obtain ⟨fn, tmps, assign, body, hy, hR⟩ := HYk
          clear e0 e1 e2 hx hst hbel hJa hsz
          gi_wp2
          refine hR.mono ?_
          rintro e W3 (⟨rfl, hJ3, hk3⟩ | ⟨rfl, hJx3⟩)
          · gi_wp2
            go_roundw
            case rel => exact ⟨k + 1, by omega, by simp, hJ3, HKa.out.trans hk3⟩
            case measure => simp [intOf]; omega
          · gi_wp2
            refine bodyPost_ret (results_none rfl _ _ _) rfl ?_
            exact ⟨⟨_, rfl⟩, .inr ⟨_, HPF.out, hJx3⟩⟩
        · obtain rfl : k = m := by omega
          have hn := HN.out
          rw [show (ds.getD i zero18).maps.length = k from hml] at hn
          rw [← hn] at hJs
          clear hn
          gi_wp2
          go_roundw
          case rel => exact ⟨i + 1, by omega, by simp, hJs, hnx⟩
          case measure => simp [intOf]; omega
    · obtain rfl : i = n := by omega
      gi_wp2
      go_end0
      exact ⟨⟨_, rfl⟩, .inl ⟨_, rfl, by rw [← SA.out]; exact hJs.out⟩⟩

theorem all_stops (Bp n₀ : Nat) (A : Option Addr) (n c : Nat) (ds : List Dev18) (u w : World) (hD : Dvs u A n c ds) (hu : u.heap.size ≤ n₀) (hub : Below u.heap.size u w) (hn : n₀ ≤ w.heap.size) (hc : Boxed w Bp 22 (.slice A n c)) :
    SeqStopsK Fence.wide 1 Try.prog 45 #[.pointer (some ⟨Bp, 0, none⟩)] encM18 (KpR12 n₀ Bp) (fun ys => ys = flat18 ds) (fun pre => ∃ r, flat18 ds = pre ++ r) (cnt18 ds) w := fun l J Jx W hW hA _ hY h0 =>
  all1_in l Bp n₀ A n c ds J Jx u W hD hu (hub.trans (hW.mono hub.size)) (Nat.le_trans hn hW.size) ((hW.block Bp hc.lt).trans hc) hA hY h0

set_option maxHeartbeats 1000000 in
theorem all_any18 (A : Option Addr) (n c : Nat) (w : World) :
    Calls Try.prog 36 #[.slice A n c] w fun e w' => e = .returned (.func (.func 45) #[] #[.pointer (some ⟨w.heap.size, 0, none⟩)]) ∧ w' = w.alloc (.cells #[.slice A n c] 22) := by
  go_enter Try.func36, Try.ntmps36
  go_wp2
  go_ret
  exact ⟨by simp, rfl⟩

end Go.Proofs.Ytcmehjjaologpaa
