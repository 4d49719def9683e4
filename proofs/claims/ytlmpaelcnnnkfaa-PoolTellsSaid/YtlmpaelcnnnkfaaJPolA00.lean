/-
  Joined, on top of PolB: PolMath 3, PolAt 24, PolR 3, PolS 6, PolX 3, PolY 2, PolT 1, PolU 2, PolV 2, PolZ 9, PgL 3, PgE 2, PgF 2, MemN 1, MemC 1, MemP 1, PgC 8, PgN 3, PgD 1, PolSt 3, PolLawA 4.
-/
import Derived.Test.YtlmpaelcnnnkfaaJPolB00
import Derived.Test.YtlmpaelcnnnkfaaJPolB01
import Derived.Test.YtlmpaelcnnnkfaaJPolB02
import Derived.Test.YtlmpaelcnnnkfaaJPolB03
import Derived.Test.YtlmpaelcnnnkfaaJPolB04
import Derived.Test.YtlmpaelcnnnkfaaJPolB05
import Derived.Test.YtlmpaelcnnnkfaaJPolB06
import Derived.Test.YtlmpaelcnnnkfaaJPolB07
import Derived.Test.YtlmpaelcnnnkfaaJPolB08
import Derived.Test.YtlmpaelcnnnkfaaJPolB09
import Derived.Test.YtlmpaelcnnnkfaaJPolB10
import Derived.Test.YtlmpaelcnnnkfaaJPolB11
import Derived.Test.YtlmpaelcnnnkfaaJPolB12
import Derived.Test.YtlmpaelcnnnkfaaJPolB13
import Derived.Test.YtlmpaelcnnnkfaaJPolB14
import Derived.Test.YtlmpaelcnnnkfaaJPolB15
import Derived.Test.YtlmpaelcnnnkfaaJPolB16
import Derived.Test.YtlmpaelcnnnkfaaJPolB17
import Derived.Test.YtlmpaelcnnnkfaaJPolB18
import Derived.Test.YtlmpaelcnnnkfaaJPolB19
import Derived.Test.YtlmpaelcnnnkfaaJPolB20
import Derived.Test.YtlmpaelcnnnkfaaJPolB21
import Derived.Deep.RegionHeld3
import Derived.BigQuiet
import Derived.Laws.Small
import Derived.Deep.AppendLies
/-
  Layer 18's mathematics: whether a pool may be, its counts, its latest time.
-/
namespace Go.Proofs.Ytlmpaelcnnnkfaa
open Go.RowKit
set_option linter.unusedVariables false
set_option linter.unusedSimpArgs false

/-- the latest time -/
def late18 (ts : List Int) : Int := ts.foldl (fun a b => if a < b then b else a) 0
def times18 (ds : List Dev18) : List Int := ds.flatMap fun d => d.maps.map fun x => x.2.2
theorem late18_snoc (a : List Int) (b : Int) : late18 (a ++ [b]) = if late18 a < b then b else late18 a := by
  rw [late18, late18, List.foldl_append]
  rfl
end Go.Proofs.Ytlmpaelcnnnkfaa

/-
  Layer 18's mathematics: errors entry by entry, as loops meet them; pools that are the same.
-/
namespace Go.Proofs.Ytlmpaelcnnnkfaa
open Go.RowKit
set_option linter.unusedVariables false
set_option linter.unusedSimpArgs false

/-! ### the first error of a row -/
theorem first18_at : ∀ {l : List Int} {k : Nat}, (∀ j, j < k → l.getD j 0 = 0) → l.getD k 0 ≠ 0 → first18 l = l.getD k 0
  | [], k, _, h => by simp at h
  | x :: r, 0, _, h => by
    have h : x ≠ 0 := by simpa using h
    rw [first18, if_pos h]
    rfl
  | x :: r, k + 1, hj, h => by
    have h0 := hj 0 (by omega)
    have h0 : x = 0 := by simpa using h0
    rw [first18, if_neg (by rw [h0]; simp)]
    have := first18_at (l := r) (k := k) (fun j h => by have := hj (j + 1) (by omega); simpa using this) (by simpa using h)
    rw [this]
    simp
theorem first18_none : ∀ {l : List Int}, (∀ j, j < l.length → l.getD j 0 = 0) → first18 l = 0
  | [], _ => rfl
  | x :: r, h => by
    have h0 := h 0 (by simp)
    have h0 : x = 0 := by simpa using h0
    rw [first18, if_neg (by rw [h0]; simp)]
    exact first18_none fun j hj => by
      have := h (j + 1) (by simp; omega)
      simpa using this

/-! ### mappings -/
/-- what is wrong with mapping k, behind p if it is the first -/
def mapAt18 (data : Int) (p : Option Int) (l : List (Int × Int × Int)) (k : Nat) : Int :=
  if mapR18 data (l.getD k (0, 0, 0)) = false then 2 else if ∃ y, (if k = 0 then p else some (l.getD (k - 1) (0, 0, 0)).1) = some y ∧ (l.getD k (0, 0, 0)).1 ≤ y then 8 else 0
theorem mapAt18_succ (data : Int) (p : Option Int) (x : Int × Int × Int) (r : List (Int × Int × Int)) (k : Nat) : mapAt18 data p (x :: r) (k + 1) = mapAt18 data (some x.1) r k := by
  unfold mapAt18
  cases k with
  | zero => simp
  | succ k => simp
theorem mapsE18_first (data : Int) : ∀ (p : Option Int) (l : List (Int × Int × Int)), mapsE18 data p l = first18 ((List.range l.length).map (mapAt18 data p l))
  | p, [] => rfl
  | p, x :: r => by
    have e : (List.range (x :: r).length).map (mapAt18 data p (x :: r)) = mapAt18 data p (x :: r) 0 :: (List.range r.length).map (mapAt18 data (some x.1) r) := by
      rw [List.length_cons, List.range_succ_eq_map, List.map_cons, List.map_map]
      congr 1
      exact List.map_congr_left fun k _ => mapAt18_succ data p x r k
    rw [e, mapsE18, first18, ← mapsE18_first data (some x.1) r]
    have e0 : mapAt18 data p (x :: r) 0 = if mapR18 data x = false then 2 else if (∃ y, p = some y ∧ x.1 ≤ y) then 8 else 0 := by
      simp [mapAt18]
    rw [e0]
    by_cases h1 : mapR18 data x = false
    · rw [if_pos h1, if_pos h1, if_pos (by decide)]
    · rw [if_neg h1, if_neg h1]
      by_cases h2 : ∃ y, p = some y ∧ x.1 ≤ y
      · rw [if_pos h2, if_pos h2, if_pos (by decide)]
      · rw [if_neg h2, if_neg h2, if_neg (by simp)]
theorem mapsE18_bad {data : Int} {l : List (Int × Int × Int)} {k : Nat} (hk : k < l.length) (h : ∀ j, j < k → mapAt18 data none l j = 0) (hb : mapAt18 data none l k ≠ 0) : mapsE18 data none l = mapAt18 data none l k := by
  have e : ∀ j, j < l.length → ((List.range l.length).map (mapAt18 data none l)).getD j 0 = mapAt18 data none l j := fun j hj => by simp [List.getD_eq_getElem?_getD, hj]
  rw [mapsE18_first, first18_at (k := k) (fun j hj => by rw [e j (by omega)]; exact h j hj) (by rw [e k hk]; exact hb), e k hk]
theorem mapsE18_good {data : Int} {l : List (Int × Int × Int)} (h : ∀ j, j < l.length → mapAt18 data none l j = 0) : mapsE18 data none l = 0 := by
  rw [mapsE18_first]
  refine first18_none fun j hj => ?_
  rw [List.length_map, List.length_range] at hj
  simpa [List.getD_eq_getElem?_getD, hj] using h j hj

/-! ### devices -/
theorem devsE18_bad {data : Int} {ds : List Dev18} {k : Nat} (hk : k < ds.length) (h : ∀ j, j < k → devAt18 data none ds j = 0) (hb : devAt18 data none ds k ≠ 0) : devsE18 data none ds = devAt18 data none ds k := by
  have e : ∀ j, j < ds.length → ((List.range ds.length).map (devAt18 data none ds)).getD j 0 = devAt18 data none ds j := fun j hj => by simp [List.getD_eq_getElem?_getD, hj]
  rw [devsE18_first, first18_at (k := k) (fun j hj => by rw [e j (by omega)]; exact h j hj) (by rw [e k hk]; exact hb), e k hk]
theorem devsE18_good {data : Int} {ds : List Dev18} (h : ∀ j, j < ds.length → devAt18 data none ds j = 0) : devsE18 data none ds = 0 := by
  rw [devsE18_first]
  refine first18_none fun j hj => ?_
  rw [List.length_map, List.length_range] at hj
  simpa [List.getD_eq_getElem?_getD, hj] using h j hj
/-! ### the counts of the first devices, of the first mappings of the next -/
/-- data blocks of the first devices, and of the first mappings of the next -/
def some18 (ds : List Dev18) (i k : Nat) : List Int := blks18 (ds.take i) ++ ((ds.getD i zero18).maps.take k).map fun x => x.2.1
theorem some18_zero (ds : List Dev18) : some18 ds 0 0 = [] := by simp [some18, blks18]
theorem blks18_snoc (a : List Dev18) (d : Dev18) : blks18 (a ++ [d]) = blks18 a ++ d.maps.map fun x => x.2.1 := by
  unfold blks18
  rw [List.flatMap_append, List.flatMap_singleton]
theorem times18_snoc (a : List Dev18) (d : Dev18) : times18 (a ++ [d]) = times18 a ++ d.maps.map fun x => x.2.2 := by
  unfold times18
  rw [List.flatMap_append, List.flatMap_singleton]
theorem some18_map {ds : List Dev18} {i k : Nat} (h : k < (ds.getD i zero18).maps.length) : some18 ds i (k + 1) = some18 ds i k ++ [((ds.getD i zero18).maps.getD k (0, 0, 0)).2.1] := by
  unfold some18
  generalize blks18 (ds.take i) = a
  generalize (ds.getD i zero18).maps = ms at *
  rw [List.take_succ_eq_append_getElem h, List.map_append, ← List.append_assoc, getD18 h]
  rfl
theorem some18_next {ds : List Dev18} {i : Nat} (h : i < ds.length) : some18 ds (i + 1) 0 = some18 ds i (ds.getD i zero18).maps.length := by
  unfold some18
  rw [List.take_succ_eq_append_getElem h, blks18_snoc, getD18 h, List.take_length, List.take_zero, List.map_nil, List.append_nil]
theorem some18_all (ds : List Dev18) : some18 ds ds.length 0 = blks18 ds := by simp [some18]
def time18 (ds : List Dev18) (i k : Nat) : List Int := times18 (ds.take i) ++ ((ds.getD i zero18).maps.take k).map fun x => x.2.2
theorem time18_zero (ds : List Dev18) : time18 ds 0 0 = [] := by simp [time18, times18]
theorem time18_map {ds : List Dev18} {i k : Nat} (h : k < (ds.getD i zero18).maps.length) : time18 ds i (k + 1) = time18 ds i k ++ [((ds.getD i zero18).maps.getD k (0, 0, 0)).2.2] := by
  unfold time18
  generalize times18 (ds.take i) = a
  generalize (ds.getD i zero18).maps = ms at *
  rw [List.take_succ_eq_append_getElem h, List.map_append, ← List.append_assoc, getD18 h]
  rfl
theorem time18_next {ds : List Dev18} {i : Nat} (h : i < ds.length) : time18 ds (i + 1) 0 = time18 ds i (ds.getD i zero18).maps.length := by
  unfold time18
  rw [List.take_succ_eq_append_getElem h, times18_snoc, getD18 h, List.take_length, List.take_zero, List.map_nil, List.append_nil]
theorem time18_all (ds : List Dev18) : time18 ds ds.length 0 = times18 ds := by simp [time18]

/-! ### what Find answers; what is the same -/
/-- the first device with this id -/
def find18 (ds : List Dev18) (id : Int) : Option Dev18 := ds.find? fun d => d.id == id
theorem find18_yes {ds : List Dev18} {id : Int} {k : Nat} (hk : k < ds.length) (h : ∀ j, j < k → (ds.getD j zero18).id ≠ id) (h2 : (ds.getD k zero18).id = id) : find18 ds id = some (ds.getD k zero18) := by
  induction ds generalizing k with
  | nil => simp at hk
  | cons x r ih =>
    cases k with
    | zero =>
      have h2 : x.id = id := by simpa using h2
      simp [find18, List.find?, h2]
    | succ k =>
      have h0 : x.id ≠ id := by have := h 0 (by omega); simpa using this
      have hb : (x.id == id) = false := by simpa using h0
      have := ih (k := k) (by simpa using hk) (fun j hj => by have := h (j + 1) (by omega); simpa using this) (by simpa using h2)
      simp only [find18, List.find?, hb, List.getD_cons_succ]
      exact this
theorem find18_no {ds : List Dev18} {id : Int} (h : ∀ j, j < ds.length → (ds.getD j zero18).id ≠ id) : find18 ds id = none := by
  unfold find18
  rw [List.find?_eq_none]
  intro x hx
  obtain ⟨j, hj, rfl⟩ := List.getElem_of_mem hx
  have := h j hj
  simpa [List.getD_eq_getElem?_getD, hj] using this
end Go.Proofs.Ytlmpaelcnnnkfaa

/-
  Layer 18: the reference's Count, Latest.
-/
namespace Go.Proofs.Ytlmpaelcnnnkfaa
open Go.RowKit
set_option linter.unusedVariables false
set_option linter.unusedSimpArgs false

set_option maxRecDepth 100000 in
set_option maxHeartbeats 400000 in
theorem refIn_any18 (n lo hi : Int) (w : World) : Calls Try.prog 26 #[.int .i64 n, .int .i64 lo, .int .i64 hi] w fun e w' => e = .returned (.bool (in18 n lo hi)) ∧ w = w' := by
  by_cases h1 : lo ≤ n
  · by_cases h2 : n ≤ hi
    · have hr : in18 n lo hi = true := by simp [in18, h1, h2]
      rw [hr]
      clear hr
      go_enter Try.func26, Try.ntmps26
      go_wp2
      go_ret
      exact ⟨rfl, rfl⟩
    · have hr : in18 n lo hi = false := by simp [in18, h2]
      rw [hr]
      clear hr
      go_enter Try.func26, Try.ntmps26
      go_wp2
      go_ret
      exact ⟨rfl, rfl⟩
  · have hr : in18 n lo hi = false := by simp [in18, h1]
    rw [hr]
    clear hr
    go_enter Try.func26, Try.ntmps26
    go_wp2
    go_ret
    exact ⟨rfl, rfl⟩

set_option maxRecDepth 100000 in
set_option maxHeartbeats 800000 in
theorem refCount_any18 (p : Pol18) (A : Option Addr) (n c : Nat) (w : World) (h : Dvs w A n c p.devs) (hc : cnt18 p.devs ≤ 1000000) :
    Calls Try.prog 13 #[polV18 p A n c] w fun e w' => e = .returned (.int .i64 (cnt18 p.devs : Int)) ∧ Below w.heap.size w w' := by
  have hle : n ≤ 9223372036854775807 := Nat.le_trans h.cap h.most
  have hl := h.len
  obtain ⟨W0, hW0⟩ : ∃ W0, w.alloc (.cells #[.int .i64 p.tx, .int .i64 p.time, .int .i64 p.unit, .int .i64 p.data, .slice A n c] 24) = W0 := ⟨_, rfl⟩
  have hb0 : Below w.heap.size w W0 := by rw [← hW0]; exact (Below.refl _ _).alloc (Nat.le_refl _) _
  have hR0 : W0.heap[w.heap.size]? = some (Obj.cells #[.int .i64 p.tx, .int .i64 p.time, .int .i64 p.unit, .int .i64 p.data, .slice A n c] 24 (0, 0)) := by rw [← hW0]; exact heap_alloc_new w _
  have h4 : W0.cell? ⟨w.heap.size, 4, none⟩ = some (.slice A n c) := by rw [cell_of_row W0 w.heap.size 4 _ _ _ hR0]; rfl
  have HD : Hid (∀ k, k < n → ∃ b off A' m c', A = some ⟨b, off, none⟩ ∧ W0.cell? ⟨b, off + k * 5 + 4, none⟩ = some (.slice A' m c') ∧ m = (p.devs.getD k zero18).maps.length) := fun k hk => by
    obtain ⟨b, off, A', m, c', e, hb, _, _, _, _, g4, hT⟩ := h.at18 hk
    exact ⟨b, off, A', m, c', e, (hb0.cell hb).trans g4, hT.len.symm⟩
  have ST := Lib.hid (fun (k : Nat) (hk : k < n) => cnt18_take (ds := p.devs) (k := k) (by omega))
  have SL := Lib.hid (fun (k : Nat) => cnt18_le (ds := p.devs) k)
  have SA : Hid (cnt18 (p.devs.take n) = cnt18 p.devs) := by rw [List.take_of_length_le (by omega)]; exact Lib.hid rfl
  have HB := Lib.hid hb0
  have S0 : Hid (cnt18 (p.devs.take 0) = 0) := Lib.hid rfl
  clear h hb0 hR0
  unfold polV18
  generalize p.tx = v0 at *
  generalize p.time = v1 at *
  generalize p.unit = v2 at *
  generalize p.data = v3 at *
  generalize p.devs = ds at *
  go_enter Try.func13, Try.ntmps13
  go_wp2
  go_loopw [3, 4] (fun v i wr => ∃ (k : Nat), k ≤ n ∧ i = .int .i64 k ∧ v = .int .i64 (cnt18 (ds.take k) : Int) ∧ wr = W0) (fun _ i _ => n - (intOf i).toNat)
  case atStart => exact ⟨0, by omega, rfl, by rw [S0.out]; rfl, rfl⟩
  case round =>
    obtain ⟨k, hk, rfl, rfl, rfl⟩ := hrel
    by_cases hlt : k < n
    · obtain ⟨b, off, A', m, c', rfl, g4, hm⟩ := HD.out k hlt
      have hst := ST.out k hlt
      rw [← hm] at hst
      have h1 := SL.out (k + 1)
      have h2 := SL.out k
      rw [hst] at h1
      have HST := Lib.hid hst
      clear hst hm
      generalize cnt18 (ds.take k) = x at *
      go_wp2
      go_roundw
      all_goals first
        | exact ⟨k + 1, by omega, by push_cast; rfl, by rw [HST.out]; push_cast; rfl, trivial⟩
        | (simp only [intOf]; omega)
    · obtain rfl : k = n := by omega
      have HX := Lib.hid SA.out
      generalize cnt18 (ds.take k) = x at *
      go_wp2
      go_ret
      exact ⟨by rw [← HX.out]; rfl, HB.out⟩
set_option maxRecDepth 100000 in
set_option maxHeartbeats 1600000 in
theorem refLatest_any18 (p : Pol18) (A : Option Addr) (n c : Nat) (w : World) (h : Dvs w A n c p.devs) :
    Calls Try.prog 15 #[polV18 p A n c] w fun e w' => e = .returned (.int .i64 (late18 (times18 p.devs))) ∧ Below w.heap.size w w' := by
  have hle : n ≤ 9223372036854775807 := Nat.le_trans h.cap h.most
  have hl := h.len
  obtain ⟨W0, hW0⟩ : ∃ W0, w.alloc (.cells #[.int .i64 p.tx, .int .i64 p.time, .int .i64 p.unit, .int .i64 p.data, .slice A n c] 24) = W0 := ⟨_, rfl⟩
  have hb0 : Below w.heap.size w W0 := by rw [← hW0]; exact (Below.refl _ _).alloc (Nat.le_refl _) _
  have hR0 : W0.heap[w.heap.size]? = some (Obj.cells #[.int .i64 p.tx, .int .i64 p.time, .int .i64 p.unit, .int .i64 p.data, .slice A n c] 24 (0, 0)) := by rw [← hW0]; exact heap_alloc_new w _
  have h4 : W0.cell? ⟨w.heap.size, 4, none⟩ = some (.slice A n c) := by rw [cell_of_row W0 w.heap.size 4 _ _ _ hR0]; rfl
  have HD : Hid (∀ k, k < n → ∃ b off A' m c', A = some ⟨b, off, none⟩ ∧ W0.cell? ⟨b, off + k * 5 + 4, none⟩ = some (.slice A' m c') ∧ Trs W0 A' m c' (p.devs.getD k zero18).maps) := fun k hk => by
    obtain ⟨b, off, A', m, c', e, hb, _, _, _, _, g4, hT⟩ := h.at18 hk
    exact ⟨b, off, A', m, c', e, (hb0.cell hb).trans g4, hT.below hb0⟩
  have ST := Lib.hid (fun (i k : Nat) => time18_map (ds := p.devs) (i := i) (k := k))
  have SN := Lib.hid (fun (i : Nat) (hi : i < n) => time18_next (ds := p.devs) (i := i) (by omega))
  have SA : Hid (time18 p.devs n 0 = times18 p.devs) := by rw [← hl]; exact Lib.hid (time18_all _)
  have S0 := Lib.hid (time18_zero p.devs)
  have HB := Lib.hid hb0
  clear h hb0 hR0
  unfold polV18
  generalize p.tx = v0 at *
  generalize p.time = v1 at *
  generalize p.unit = v2 at *
  generalize p.data = v3 at *
  generalize p.devs = ds at *
  go_enter Try.func15, Try.ntmps15
  go_wp2
  go_loopw [3, 4] (fun v i wr => ∃ (k : Nat), k ≤ n ∧ i = .int .i64 k ∧ v = .int .i64 (late18 (time18 ds k 0)) ∧ wr = W0) (fun _ i _ => n - (intOf i).toNat)
  case atStart => exact ⟨0, by omega, rfl, by rw [S0.out]; rfl, rfl⟩
  case round =>
    obtain ⟨i, hi, rfl, rfl, rfl⟩ := hrel
    by_cases hlt : i < n
    · obtain ⟨b, off, A', m, c', rfl, g4, hT⟩ := HD.out i hlt
      have hml := hT.len
      have hme : m ≤ 9223372036854775807 := Nat.le_trans hT.cap hT.most
      have HT := Lib.hid hT
      have HN := Lib.hid (SN.out i hlt)
      have HI := Lib.hid (ST.out i)
      clear hT
      obtain ⟨x, hx⟩ : ∃ x, late18 (time18 ds i 0) = x := ⟨_, rfl⟩
      rw [hx]
      have HX := Lib.hid hx
      clear hx
      go_wp2
      go_loopw [3, 5] (fun v i' wr' => ∃ (k : Nat), k ≤ m ∧ i' = .int .i64 k ∧ v = .int .i64 (late18 (time18 ds i k)) ∧ wr' = wr) (fun _ i' _ => m - (intOf i').toNat)
      case atStart => exact ⟨0, by omega, rfl, by rw [HX.out], rfl⟩
      case round =>
        obtain ⟨k, hk, rfl, rfl, rfl⟩ := hrel
        by_cases hkm : k < m
        · obtain ⟨b2, off2, x0, x1, x2, rfl, _, hx, hkl, _, _, d2⟩ := trs_at18 HT.out hkm
          have hst := HI.out k hkl
          rw [hx] at hst
          have hsn := late18_snoc (time18 ds i k) x2
          rw [← hst] at hsn
          generalize late18 (time18 ds i k) = y at *
          by_cases hyx : y < x2
          · rw [if_pos hyx] at hsn
            have HS := Lib.hid hsn
            clear hst hsn hx
            go_wp2
            go_roundw
            all_goals first
              | exact ⟨k + 1, by omega, by push_cast; rfl, by rw [HS.out], trivial⟩
              | (simp only [intOf]; omega)
          · rw [if_neg hyx] at hsn
            have HS := Lib.hid hsn
            clear hst hsn hx
            go_wp2
            go_roundw
            all_goals first
              | exact ⟨k + 1, by omega, by push_cast; rfl, by rw [HS.out], trivial⟩
              | (simp only [intOf]; omega)
        · obtain rfl : k = m := by omega
          have hn := HN.out
          rw [show (ds.getD i zero18).maps.length = k from hml] at hn
          rw [← hn]
          clear hn
          go_wp2
          go_roundw
          all_goals first
            | exact ⟨i + 1, by omega, by push_cast; rfl, rfl, trivial⟩
            | (simp only [intOf]; omega)
    · obtain rfl : i = n := by omega
      have HX := Lib.hid SA.out
      generalize time18 ds i 0 = x at *
      go_wp2
      go_ret
      exact ⟨by rw [← HX.out]; rfl, HB.out⟩
end Go.Proofs.Ytlmpaelcnnnkfaa

/-
  Layer 18: the reference's Find.
-/
namespace Go.Proofs.Ytlmpaelcnnnkfaa
open Go.RowKit
set_option linter.unusedVariables false
set_option linter.unusedSimpArgs false

/-- a device as a value, in a variable -/
def devV18 (d : Dev18) (A : Option Addr) (m c : Nat) : Value := .agg #[.int .i64 d.id, .int .i64 d.tx, .int .i64 d.made, .int .i64 d.snap, .slice A m c]
theorem DevC.load {w : World} {b : Nat} {a0 a1 a2 a3 : Int} {A : Option Addr} {n c : Nat} (h : DevC w b (.int .i64 a0) (.int .i64 a1) (.int .i64 a2) (.int .i64 a3) (.slice A n c)) : (loadVar 32 ⟨b, 0, none⟩).run Try.prog w = .ok (.agg #[.int .i64 a0, .int .i64 a1, .int .i64 a2, .int .i64 a3, .slice A n c]) w := run_loadVar_row w b _ _ _ _ _ h Try.underlying32 rfl (by kernel_rfl)
theorem DevC.set5 {w : World} {b : Nat} {v0 v1 v2 v3 v4 : Value} (h : DevC w b v0 v1 v2 v3 v4) (a0 a1 a2 a3 a4 : Value) : DevC (((((w.setCell ⟨b, 0, none⟩ a0).setCell ⟨b, 1, none⟩ a1).setCell ⟨b, 2, none⟩ a2).setCell ⟨b, 3, none⟩ a3).setCell ⟨b, 4, none⟩ a4) b a0 a1 a2 a3 a4 := by
  have h1 : Blk w b 32 [v0, v1, v2, v3, v4] := h
  exact ((((h1.set 0 a0).set 1 a1).set 2 a2).set 3 a3).set 4 a4
theorem res18_cell {P : Program} {fn : Func} {p q : Tmp} {t1 : TypeId} (h : fn.results = #[.cell p t1, .tmp q]) (tmps : Array Value) (w : World) {a : Addr} {v : Value}
    (hp : tmps.getD p undef = .pointer (some a)) (h1 : (loadVar t1 a).run P w = .ok v w) : (results fn tmps).run P w = .ok (.tuple #[v, tmps.getD q undef]) w := by
  have hp' : tmps[p]?.getD undef = .pointer (some a) := by simpa using hp
  simp [results, h, hp', asAddr, h1, Result.andThen, Sem.run_bind]
/-- what Find answers -/
def FindP18 (p : Pol18) (id : Int) (w : World) (e : Ending) (w' : World) : Prop := (∃ A' m c', e = .returned (.tuple #[devV18 ((find18 p.devs id).getD zero18) A' m c', .bool (find18 p.devs id).isSome]) ∧ Trs w' A' m c' ((find18 p.devs id).getD zero18).maps) ∧ Below w.heap.size w w'

set_option maxRecDepth 100000 in
set_option maxHeartbeats 1600000 in
theorem refFind_any18 (p : Pol18) (id : Int) (A : Option Addr) (n c : Nat) (w : World) (h : Dvs w A n c p.devs) :
    Calls Try.prog 17 #[polV18 p A n c, .int .i64 id] w (FindP18 p id w) := by
  have hle : n ≤ 9223372036854775807 := Nat.le_trans h.cap h.most
  have hl := h.len
  obtain ⟨W0, hW0⟩ : ∃ W0, w.alloc (.cells #[.int .i64 p.tx, .int .i64 p.time, .int .i64 p.unit, .int .i64 p.data, .slice A n c] 24) = W0 := ⟨_, rfl⟩
  obtain ⟨W1, hW1⟩ : ∃ W1, W0.alloc (.cells #[.int .i64 0, .int .i64 0, .int .i64 0, .int .i64 0, .slice none 0 0] 32) = W1 := ⟨_, rfl⟩
  have hs0 : W0.heap.size = w.heap.size + 1 := by rw [← hW0]; exact World.size_alloc _ _
  have hs1 : W1.heap.size = w.heap.size + 2 := by rw [← hW1, World.size_alloc, hs0]
  have hb0 : Below w.heap.size w W0 := by rw [← hW0]; exact (Below.refl _ _).alloc (Nat.le_refl _) _
  have hb01 : Below W0.heap.size W0 W1 := by rw [← hW1]; exact (Below.refl _ _).alloc (Nat.le_refl _) _
  have hb1 : Below w.heap.size w W1 := hb0.trans (hb01.mono (by omega))
  have hR0 : W0.heap[w.heap.size]? = some (Obj.cells #[.int .i64 p.tx, .int .i64 p.time, .int .i64 p.unit, .int .i64 p.data, .slice A n c] 24 (0, 0)) := by rw [← hW0]; exact heap_alloc_new w _
  have hR1 : W1.heap[w.heap.size]? = some (Obj.cells #[.int .i64 p.tx, .int .i64 p.time, .int .i64 p.unit, .int .i64 p.data, .slice A n c] 24 (0, 0)) := (hb01.block _ (by omega)).trans hR0
  have h4 : W1.cell? ⟨w.heap.size, 4, none⟩ = some (.slice A n c) := by rw [cell_of_row W1 w.heap.size 4 _ _ _ hR1]; rfl
  have hV : DevC W1 (w.heap.size + 1) (.int .i64 0) (.int .i64 0) (.int .i64 0) (.int .i64 0) (.slice none 0 0) := by
    have := heap_alloc_new W0 (.cells #[.int .i64 0, .int .i64 0, .int .i64 0, .int .i64 0, .slice none 0 0] 32)
    rw [hW1, hs0] at this
    exact this
  have HV := Lib.hid hV
  have HD : Hid (∀ k, k < n → ∃ b off A' m c', A = some ⟨b, off, none⟩ ∧ b < w.heap.size ∧ (W1.cell? ⟨b, off + k * 5, none⟩ = some (.int .i64 (p.devs.getD k zero18).id) ∧ W1.cell? ⟨b, off + k * 5 + 1, none⟩ = some (.int .i64 (p.devs.getD k zero18).tx) ∧ W1.cell? ⟨b, off + k * 5 + 2, none⟩ = some (.int .i64 (p.devs.getD k zero18).made) ∧ W1.cell? ⟨b, off + k * 5 + 3, none⟩ = some (.int .i64 (p.devs.getD k zero18).snap) ∧ W1.cell? ⟨b, off + k * 5 + 4, none⟩ = some (.slice A' m c')) ∧ Trs w A' m c' (p.devs.getD k zero18).maps) := fun k hk => by
    obtain ⟨b, off, A', m, c', e, hb, g0, g1, g2, g3, g4, hT⟩ := h.at18 hk
    exact ⟨b, off, A', m, c', e, hb, ⟨(hb1.cell hb).trans g0, (hb1.cell (p := ⟨b, _, none⟩) hb).trans g1, (hb1.cell (p := ⟨b, _, none⟩) hb).trans g2, (hb1.cell (p := ⟨b, _, none⟩) hb).trans g3, (hb1.cell (p := ⟨b, _, none⟩) hb).trans g4⟩, hT⟩
  have HB := Lib.hid hb1
  have YES : Hid (∀ k, k < n → (∀ j, j < k → (p.devs.getD j zero18).id ≠ id) → (p.devs.getD k zero18).id = id → ∀ (w' : World) A' m c', Trs w A' m c' (p.devs.getD k zero18).maps → Below w.heap.size w w' → FindP18 p id w (.returned (.tuple #[devV18 (p.devs.getD k zero18) A' m c', .bool true])) w') := fun k hk hj he w' A' m c' hT hb => by
    have hf := find18_yes (ds := p.devs) (id := id) (k := k) (by omega) hj he
    unfold FindP18
    rw [hf]
    exact ⟨⟨A', m, c', rfl, hT.below hb⟩, hb⟩
  have NO : Hid ((∀ j, j < n → (p.devs.getD j zero18).id ≠ id) → ∀ w', Below w.heap.size w w' → FindP18 p id w (.returned (.tuple #[devV18 zero18 none 0 0, .bool false])) w') := fun hj w' hb => by
    have hf := find18_no (ds := p.devs) (id := id) (by rw [hl]; exact hj)
    unfold FindP18
    rw [hf]
    exact ⟨⟨none, 0, 0, rfl, Trs.nil w'⟩, hb⟩
  clear h hb0 hb01 hb1 hR0 hR1 hV
  generalize FindP18 p id w = Q at *
  unfold polV18
  generalize p.tx = v0 at *
  generalize p.time = v1 at *
  generalize p.unit = v2 at *
  generalize p.data = v3 at *
  generalize p.devs = ds at *
  go_enter Try.func17, Try.ntmps17
  go_wp2
  go_loopw [6] (fun i wr => ∃ (k : Nat), k ≤ n ∧ i = .int .i64 k ∧ Hid (∀ j, j < k → (ds.getD j zero18).id ≠ id) ∧ wr = W1) (fun i _ => n - (intOf i).toNat)
  case atStart => exact ⟨0, by omega, rfl, fun j hj => by omega, rfl⟩
  case round =>
    obtain ⟨k, hk, rfl, HJ, rfl⟩ := hrel
    by_cases hlt : k < n
    · obtain ⟨b, off, A', m, c', rfl, hbl, ⟨g0, g1, g2, g3, g4⟩, hT⟩ := HD.out k hlt
      have HT := Lib.hid hT
      have HY := Lib.hid (YES.out k hlt HJ.out)
      clear hT
      by_cases he : (ds.getD k zero18).id = id
      · have HY2 := Lib.hid (HY.out he)
        unfold devV18 at HY2
        generalize (ds.getD k zero18).id = x0 at *
        generalize (ds.getD k zero18).tx = x1 at *
        generalize (ds.getD k zero18).made = x2 at *
        generalize (ds.getD k zero18).snap = x3 at *
        generalize (ds.getD k zero18).maps = x4 at *
        clear HY YES
        obtain ⟨⟨r0, r1, r2, r3, r4⟩, f0, f1, f2, f3, f4⟩ := HV.out.cs
        go_wp2
        have h5 := HV.out.set5 (.int .i64 x0) (.int .i64 x1) (.int .i64 x2) (.int .i64 x3) (.slice A' m c')
        rw [he] at h5
        refine bodyPost_ret (res18_cell Try.results17 _ _ (a := ⟨w.heap.size + 1, 0, none⟩) rfl h5.load) rfl ?_
        rw [he] at HY2
        exact HY2.out _ A' m c' HT.out (((((HB.out.setCell (p := ⟨w.heap.size + 1, 0, none⟩) (Nat.le_succ _) _).setCell (p := ⟨w.heap.size + 1, 1, none⟩) (Nat.le_succ _) _).setCell (p := ⟨w.heap.size + 1, 2, none⟩) (Nat.le_succ _) _).setCell (p := ⟨w.heap.size + 1, 3, none⟩) (Nat.le_succ _) _).setCell (p := ⟨w.heap.size + 1, 4, none⟩) (Nat.le_succ _) _)
      · have HJ2 : Hid (∀ j, j < k + 1 → (ds.getD j zero18).id ≠ id) := fun j hj => by
          by_cases e : j = k
          · rw [e]; exact he
          · exact HJ.out j (by omega)
        generalize (ds.getD k zero18).id = x0 at *
        clear HJ HY
        go_wp2
        go_roundw
        all_goals first
          | exact ⟨k + 1, by omega, by push_cast; rfl, HJ2, trivial⟩
          | (simp only [intOf]; omega)
    · obtain rfl : k = n := by omega
      have HN := Lib.hid (NO.out HJ.out)
      obtain ⟨⟨r0, r1, r2, r3, r4⟩, f0, f1, f2, f3, f4⟩ := HV.out.cs
      go_wp2
      have h5 := HV.out.set5 (.int .i64 0) (.int .i64 0) (.int .i64 0) (.int .i64 0) (.slice none 0 0)
      refine bodyPost_ret (res18_cell Try.results17 _ _ (a := ⟨w.heap.size + 1, 0, none⟩) rfl h5.load) rfl ?_
      exact HN.out _ (((((HB.out.setCell (p := ⟨w.heap.size + 1, 0, none⟩) (Nat.le_succ _) _).setCell (p := ⟨w.heap.size + 1, 1, none⟩) (Nat.le_succ _) _).setCell (p := ⟨w.heap.size + 1, 2, none⟩) (Nat.le_succ _) _).setCell (p := ⟨w.heap.size + 1, 3, none⟩) (Nat.le_succ _) _).setCell (p := ⟨w.heap.size + 1, 4, none⟩) (Nat.le_succ _) _)
end Go.Proofs.Ytlmpaelcnnnkfaa

/-
  Layer 18: the reference's Refs, once its Check is known.
-/
namespace Go.Proofs.Ytlmpaelcnnnkfaa
open Go.RowKit
set_option linter.unusedVariables false
set_option linter.unusedSimpArgs false

theorem some18_few {ds : List Dev18} {i k : Nat} (h : i < ds.length) (hk : k ≤ (ds.getD i zero18).maps.length) : (some18 ds i k).length ≤ cnt18 ds := by
  have h1 := cnt18_take h
  have h2 := cnt18_le (ds := ds) (i + 1)
  unfold some18
  rw [List.length_append, List.length_map, List.length_take, blks18_length]
  omega
theorem refs18_at {n j : Nat} (bs : List Int) (h : j < n) : 0 ≤ (refs18 n bs).getD j 0 ∧ (refs18 n bs).getD j 0 ≤ (bs.length : Int) := by
  rw [getD18 (by rw [refs18_length]; exact h)]
  have := List.count_le_length (a := (j : Int)) (l := bs)
  simp only [refs18, List.getElem_map, List.getElem_range]
  omega

set_option maxRecDepth 100000 in
set_option maxHeartbeats 1600000 in
theorem refRefs_good18 (p : Pol18) (A : Option Addr) (n c : Nat) (w : World) (h : Dvs w A n c p.devs) (hv : chkE18 p = 0) (D : Nat) (hD : p.data = (D : Int)) (hD2 : D ≤ 65536) (hcn : cnt18 p.devs ≤ 16384)
    (CK : ∀ W, Below w.heap.size w W → Calls Try.prog 9 #[polV18 p A n c] W fun e w' => e = .returned (.int .i64 (chkE18 p)) ∧ Below W.heap.size W w') :
    Calls Try.prog 20 #[polV18 p A n c] w fun e w' => ∃ A' c', e = .returned (.slice A' D c') ∧ Ints w' A' D c' (refs18 D (blks18 p.devs)) ∧ Below w.heap.size w w' := by
  have hle : n ≤ 9223372036854775807 := Nat.le_trans h.cap h.most
  have hl := h.len
  obtain ⟨W0, hW0⟩ : ∃ W0, w.alloc (.cells #[.int .i64 p.tx, .int .i64 p.time, .int .i64 p.unit, .int .i64 p.data, .slice A n c] 24) = W0 := ⟨_, rfl⟩
  have hs0 : W0.heap.size = w.heap.size + 1 := by rw [← hW0]; exact World.size_alloc _ _
  have hb0 : Below w.heap.size w W0 := by rw [← hW0]; exact (Below.refl _ _).alloc (Nat.le_refl _) _
  have hR0 : W0.heap[w.heap.size]? = some (Obj.cells #[.int .i64 p.tx, .int .i64 p.time, .int .i64 p.unit, .int .i64 p.data, .slice A n c] 24 (0, 0)) := by rw [← hW0]; exact heap_alloc_new w _
  have c0 : W0.cell? ⟨w.heap.size, 0, none⟩ = some (.int .i64 p.tx) := by rw [cell_of_row W0 w.heap.size 0 _ _ _ hR0]; rfl
  have c1 : W0.cell? ⟨w.heap.size, 1, none⟩ = some (.int .i64 p.time) := by rw [cell_of_row W0 w.heap.size 1 _ _ _ hR0]; rfl
  have c2 : W0.cell? ⟨w.heap.size, 2, none⟩ = some (.int .i64 p.unit) := by rw [cell_of_row W0 w.heap.size 2 _ _ _ hR0]; rfl
  have c3 : W0.cell? ⟨w.heap.size, 3, none⟩ = some (.int .i64 p.data) := by rw [cell_of_row W0 w.heap.size 3 _ _ _ hR0]; rfl
  have c4 : W0.cell? ⟨w.heap.size, 4, none⟩ = some (.slice A n c) := by rw [cell_of_row W0 w.heap.size 4 _ _ _ hR0]; rfl
  have CK1 : Hid (Calls Try.prog 9 #[.agg #[.int .i64 p.tx, .int .i64 p.time, .int .i64 p.unit, .int .i64 (D : Int), .slice A n c]] W0 fun e w' => e = .returned (.int .i64 0) ∧ Below W0.heap.size W0 w') := by
    have := CK W0 hb0
    rw [hv] at this
    rw [← hD]
    exact this
  have HD : Hid (∀ k, k < n → ∃ b off A' m c', A = some ⟨b, off, none⟩ ∧ b < w.heap.size ∧ w.cell? ⟨b, off + k * 5 + 4, none⟩ = some (.slice A' m c') ∧ Trs w A' m c' (p.devs.getD k zero18).maps) := fun k hk => by
    obtain ⟨b, off, A', m, c', e, hb, _, _, _, _, g4, hT⟩ := h.at18 hk
    exact ⟨b, off, A', m, c', e, hb, g4, hT⟩
  have IN : Hid (∀ i k, i < n → k < (p.devs.getD i zero18).maps.length → ∃ j : Nat, ((p.devs.getD i zero18).maps.getD k (0, 0, 0)).2.1 = (j : Int) ∧ j < D ∧ refs18 D (some18 p.devs i (k + 1)) = (refs18 D (some18 p.devs i k)).set j ((refs18 D (some18 p.devs i k)).getD j 0 + 1) ∧ 0 ≤ (refs18 D (some18 p.devs i k)).getD j 0 ∧ (refs18 D (some18 p.devs i k)).getD j 0 ≤ 16384) := fun i k hi hk => by
    have hil : i < p.devs.length := by omega
    have hb := blks18_in hv ((p.devs.getD i zero18).maps.getD k (0, 0, 0)).2.1 (by
      refine List.mem_flatMap.2 ⟨p.devs.getD i zero18, by rw [getD18 hil]; exact List.getElem_mem hil, List.mem_map.2 ⟨(p.devs.getD i zero18).maps.getD k (0, 0, 0), by rw [getD18 hk]; exact List.getElem_mem hk, rfl⟩⟩)
    obtain ⟨j, hj⟩ := Int.eq_ofNat_of_zero_le hb.1
    have hjD : j < D := by have := hb.2; rw [hj, hD] at this; omega
    have hst := some18_map (ds := p.devs) (i := i) (k := k) hk
    rw [hj] at hst
    have hfw := some18_few hil (Nat.le_of_lt hk)
    have hat := refs18_at (some18 p.devs i k) hjD
    exact ⟨j, hj, hjD, by rw [hst]; exact refs18_step D _ j hjD, hat.1, by omega⟩
  have SN := Lib.hid (fun (i : Nat) (hi : i < n) => some18_next (ds := p.devs) (i := i) (by omega))
  have SA : Hid (some18 p.devs n 0 = blks18 p.devs) := by rw [← hl]; exact Lib.hid (some18_all _)
  have S0 := Lib.hid (some18_zero p.devs)
  have LN := Lib.hid (fun bs => refs18_length D bs)
  have RN := Lib.hid (refs18_nil D)
  have HB := Lib.hid hb0
  have HS0 := Lib.hid hs0
  obtain ⟨i0, hi0, hz0, hz1, hz2⟩ := info_parts info_i64
  clear h hb0 hR0 CK hv
  unfold polV18
  rw [hD] at *
  generalize p.tx = v0 at *
  generalize p.time = v1 at *
  generalize p.unit = v2 at *
  generalize p.devs = ds at *
  go_enter Try.func20, Try.ntmps20
  go_wp2_with (first
    | (go_at_call 9; (with_reducible refine (CK1.out).mono ?_); rintro e w1 ⟨rfl, hb1⟩; have HB1 := Lib.hid hb1; have k3 := (hb1.cell (p := ⟨w.heap.size, 3, none⟩) (by show w.heap.size < W0.heap.size; omega)).trans c3; have k4 := (hb1.cell (p := ⟨w.heap.size, 4, none⟩) (by show w.heap.size < W0.heap.size; omega)).trans c4; clear hb1)
    | (at_make; refine wpList_make_full w1 rfl (.tmp 10) (.tmp 10) _ rfl w1.heap.size 3 i0 _ 1 Try.underlying36 hi0 hz0 hz1 .i64 .i64 _ _ D rfl rfl rfl rfl (by rw [hz2]; omega) (by simp only [maxLen]; omega) (Nat.le_refl _) ?_; intro w2 hown2 hg2; have hb2 := Lib.hid (below_of_grown hg2 (by simp)); have HO2 := Lib.hid (own_zerosI hown2 (Nat.le_refl _)); clear hown2 hg2))
  have hG : w.heap.size + 1 ≤ w1.heap.size := by have := HB1.out.size; have := HS0.out; omega
  have HO3 : Hid (OwnI w2 w1.heap.size w1.heap.size (refs18 D (some18 ds 0 0))) := by rw [S0.out, RN.out]; exact HO2.out
  have HBW : Hid (Below (w.heap.size + 1) W0 w2) := (HB1.out.mono (by have := HS0.out; omega)).trans (hb2.out.mono hG)
  clear HO2 hi0 hz0 hz1 hz2 k3 k4 HB1 hb2 CK1
  generalize w1.heap.size = G at *
  go_loopw [4] (fun i wr => ∃ k : Nat, k ≤ n ∧ i = .int .i64 k ∧ Hid (OwnI wr G G (refs18 D (some18 ds k 0))) ∧ Hid (Below (w.heap.size + 1) W0 wr)) (fun i _ => n - (intOf i).toNat)
  case atStart => exact ⟨0, by omega, rfl, HO3, HBW⟩
  case round =>
    clear HO3 HBW
    obtain ⟨i, hi, rfl, hO, hbel⟩ := hrel
    have k4 := (hbel.out.cell (p := ⟨w.heap.size, 4, none⟩) (Nat.lt_succ_self _)).trans c4
    by_cases hlt : i < n
    · obtain ⟨b, off, A', m, c', rfl, hb, g4, hT⟩ := HD.out i hlt
      have hml := hT.len
      have hme : m ≤ 9223372036854775807 := Nat.le_trans hT.cap hT.most
      have HT := Lib.hid hT
      have HN := Lib.hid (SN.out i hlt)
      have HI := Lib.hid (IN.out i)
      clear hT
      have gg4 := (hbel.out.cell (p := ⟨b, off + i * 5 + 4, none⟩) (by show b < w.heap.size + 1; omega)).trans ((HB.out.cell (p := ⟨b, off + i * 5 + 4, none⟩) hb).trans g4)
      go_wp2
      go_loopw [5] (fun i' wr' => ∃ k : Nat, k ≤ m ∧ i' = .int .i64 k ∧ Hid (OwnI wr' G G (refs18 D (some18 ds i k))) ∧ Hid (Below (w.heap.size + 1) W0 wr')) (fun i' _ => m - (intOf i').toNat)
      case atStart => exact ⟨0, by omega, rfl, hO, hbel⟩
      case round =>
        clear hO hbel k4 gg4
        obtain ⟨k, hk, rfl, hO, hbel⟩ := hrel
        have k4 := (hbel.out.cell (p := ⟨w.heap.size, 4, none⟩) (Nat.lt_succ_self _)).trans c4
        have gg4 := (hbel.out.cell (p := ⟨b, off + i * 5 + 4, none⟩) (by show b < w.heap.size + 1; omega)).trans ((HB.out.cell (p := ⟨b, off + i * 5 + 4, none⟩) hb).trans g4)
        by_cases hkm : k < m
        · obtain ⟨b2, off2, x0, x1, x2, rfl, hb2, hx, hkl, _, d1, _⟩ := trs_at18 HT.out hkm
          have e1 := (hbel.out.cell (p := ⟨b2, off2 + k * 3 + 1, none⟩) (by show b2 < w.heap.size + 1; omega)).trans ((HB.out.cell (p := ⟨b2, off2 + k * 3 + 1, none⟩) hb2).trans d1)
          obtain ⟨j, hj, hjD, hst, hz0, hz1⟩ := HI.out k hlt hkl
          rw [hx] at hj
          have hj : x1 = (j : Int) := hj
          subst hj
          have hcj := hO.out.cell (j := j) (by rw [LN.out]; exact hjD)
          have hfj := hO.out.free j
          have HS := hO.out.set j ((refs18 D (some18 ds i k)).getD j 0 + 1)
          rw [← hst] at HS
          rw [← getD18 (by rw [LN.out]; exact hjD) (0 : Int)] at hcj
          have HSH := Lib.hid HS
          have hGw : w.heap.size + 1 ≤ G := hG
          have HBN : Hid (Below (w.heap.size + 1) W0 (wr.setCell ⟨G, j, none⟩ (.int .i64 ((refs18 D (some18 ds i k)).getD j 0 + 1)))) := hbel.out.setCell (p := ⟨G, j, none⟩) hG _
          clear HS hst hx d1
          generalize (refs18 D (some18 ds i k)).getD j 0 = y at *
          go_wp2
          go_roundw
          all_goals first
            | exact ⟨k + 1, by omega, by push_cast; rfl, HSH, HBN⟩
            | (simp only [intOf]; omega)
        · obtain rfl : k = m := by omega
          have hn := HN.out
          rw [show (ds.getD i zero18).maps.length = k from hml] at hn
          rw [← hn] at hO
          clear hn
          go_wp2
          go_roundw
          all_goals first
            | exact ⟨i + 1, by omega, by push_cast; rfl, hO, hbel⟩
            | (simp only [intOf]; omega)
    · obtain rfl : i = n := by omega
      rw [SA.out] at hO
      have HF := Lib.hid (hO.out.ints (n := D) (LN.out _) (by omega))
      go_wp2
      go_ret
      exact ⟨_, _, rfl, HF.out, HB.out.trans (hbel.out.mono (Nat.le_succ _))⟩
end Go.Proofs.Ytlmpaelcnnnkfaa

/-
  Layer 18: the reference's Check, where the pool's own numbers are wrong or it has too much.
-/
namespace Go.Proofs.Ytlmpaelcnnnkfaa
open Go.RowKit
set_option linter.unusedVariables false
set_option linter.unusedSimpArgs false

set_option maxRecDepth 100000 in
set_option maxHeartbeats 1600000 in
theorem refCheck_head18 (p : Pol18) (A : Option Addr) (n c : Nat) (w : World) (h : headR18 p = false) :
    Calls Try.prog 9 #[polV18 p A n c] w fun e w' => e = .returned (.int .i64 (chkE18 p)) ∧ Below w.heap.size w w' := by
  rw [chkE18_head h]
  obtain ⟨W0, hW0⟩ : ∃ W0, w.alloc (.cells #[.int .i64 p.tx, .int .i64 p.time, .int .i64 p.unit, .int .i64 p.data, .slice A n c] 24) = W0 := ⟨_, rfl⟩
  have hb0 : Below w.heap.size w W0 := by rw [← hW0]; exact (Below.refl _ _).alloc (Nat.le_refl _) _
  have hR0 : W0.heap[w.heap.size]? = some (Obj.cells #[.int .i64 p.tx, .int .i64 p.time, .int .i64 p.unit, .int .i64 p.data, .slice A n c] 24 (0, 0)) := by rw [← hW0]; exact heap_alloc_new w _
  have c0 : W0.cell? ⟨w.heap.size, 0, none⟩ = some (.int .i64 p.tx) := by rw [cell_of_row W0 w.heap.size 0 _ _ _ hR0]; rfl
  have c1 : W0.cell? ⟨w.heap.size, 1, none⟩ = some (.int .i64 p.time) := by rw [cell_of_row W0 w.heap.size 1 _ _ _ hR0]; rfl
  have c2 : W0.cell? ⟨w.heap.size, 2, none⟩ = some (.int .i64 p.unit) := by rw [cell_of_row W0 w.heap.size 2 _ _ _ hR0]; rfl
  have c3 : W0.cell? ⟨w.heap.size, 3, none⟩ = some (.int .i64 p.data) := by rw [cell_of_row W0 w.heap.size 3 _ _ _ hR0]; rfl
  have HB := Lib.hid hb0
  have I0 := Lib.hid (fun W => refIn_any18 p.tx 0 2147483647 W)
  have I1 := Lib.hid (fun W => refIn_any18 p.time 0 16777215 W)
  have I2 := Lib.hid (fun W => refIn_any18 p.unit 1 65536 W)
  have I3 := Lib.hid (fun W => refIn_any18 p.data 0 65536 W)
  unfold headR18 at h
  generalize in18 p.tx 0 2147483647 = r0 at *
  generalize in18 p.time 0 16777215 = r1 at *
  generalize in18 p.unit 1 65536 = r2 at *
  generalize in18 p.data 0 65536 = r3 at *
  clear hb0 hR0
  unfold polV18
  generalize p.tx = v0 at *
  generalize p.time = v1 at *
  generalize p.unit = v2 at *
  generalize p.data = v3 at *
  cases r0 <;> cases r1 <;> cases r2 <;> cases r3
  all_goals first
    | (exfalso; revert h; decide)
    | (clear h
       go_enter Try.func9, Try.ntmps9
       go_wp2_with (go_at_call 26; (first
         | (with_reducible refine (I0.out _).mono ?_)
         | (with_reducible refine (I1.out _).mono ?_)
         | (with_reducible refine (I2.out _).mono ?_)
         | (with_reducible refine (I3.out _).mono ?_)); rintro e w' ⟨rfl, rfl⟩)
       go_ret
       exact ⟨rfl, HB.out⟩)

set_option maxRecDepth 100000 in
set_option maxHeartbeats 1600000 in
theorem refCheck_many18 (p : Pol18) (A : Option Addr) (n c : Nat) (w : World) (hd : Dvs w A n c p.devs) (hc : cnt18 p.devs ≤ 1000000) (h : headR18 p = true) (h2 : 4096 < p.devs.length ∨ 16384 < cnt18 p.devs) :
    Calls Try.prog 9 #[polV18 p A n c] w fun e w' => e = .returned (.int .i64 (chkE18 p)) ∧ Below w.heap.size w w' := by
  rw [chkE18_many h h2]
  have hle : n ≤ 9223372036854775807 := Nat.le_trans hd.cap hd.most
  obtain ⟨W0, hW0⟩ : ∃ W0, w.alloc (.cells #[.int .i64 p.tx, .int .i64 p.time, .int .i64 p.unit, .int .i64 p.data, .slice A n c] 24) = W0 := ⟨_, rfl⟩
  have hb0 : Below w.heap.size w W0 := by rw [← hW0]; exact (Below.refl _ _).alloc (Nat.le_refl _) _
  have hR0 : W0.heap[w.heap.size]? = some (Obj.cells #[.int .i64 p.tx, .int .i64 p.time, .int .i64 p.unit, .int .i64 p.data, .slice A n c] 24 (0, 0)) := by rw [← hW0]; exact heap_alloc_new w _
  have c0 : W0.cell? ⟨w.heap.size, 0, none⟩ = some (.int .i64 p.tx) := by rw [cell_of_row W0 w.heap.size 0 _ _ _ hR0]; rfl
  have c1 : W0.cell? ⟨w.heap.size, 1, none⟩ = some (.int .i64 p.time) := by rw [cell_of_row W0 w.heap.size 1 _ _ _ hR0]; rfl
  have c2 : W0.cell? ⟨w.heap.size, 2, none⟩ = some (.int .i64 p.unit) := by rw [cell_of_row W0 w.heap.size 2 _ _ _ hR0]; rfl
  have c3 : W0.cell? ⟨w.heap.size, 3, none⟩ = some (.int .i64 p.data) := by rw [cell_of_row W0 w.heap.size 3 _ _ _ hR0]; rfl
  have c4 : W0.cell? ⟨w.heap.size, 4, none⟩ = some (.slice A n c) := by rw [cell_of_row W0 w.heap.size 4 _ _ _ hR0]; rfl
  have HB := Lib.hid hb0
  have hl := hd.len
  have CT := Lib.hid (refCount_any18 p A n c W0 (hd.below hb0) hc)
  unfold polV18 at CT
  have I0 := Lib.hid (fun W => refIn_any18 p.tx 0 2147483647 W)
  have I1 := Lib.hid (fun W => refIn_any18 p.time 0 16777215 W)
  have I2 := Lib.hid (fun W => refIn_any18 p.unit 1 65536 W)
  have I3 := Lib.hid (fun W => refIn_any18 p.data 0 65536 W)
  unfold headR18 at h
  simp only [Bool.and_eq_true] at h
  obtain ⟨⟨⟨r0, r1⟩, r2⟩, r3⟩ := h
  rw [r0] at I0
  rw [r1] at I1
  rw [r2] at I2
  rw [r3] at I3
  rw [hl] at h2
  clear hb0 hR0 hd r0 r1 r2 r3
  unfold polV18
  generalize cnt18 p.devs = x at *
  generalize p.tx = v0 at *
  generalize p.time = v1 at *
  generalize p.unit = v2 at *
  generalize p.data = v3 at *
  by_cases hn : 4096 < n
  · go_enter Try.func9, Try.ntmps9
    go_wp2_with (go_at_call 26; (first
         | (with_reducible refine (I0.out _).mono ?_)
         | (with_reducible refine (I1.out _).mono ?_)
         | (with_reducible refine (I2.out _).mono ?_)
         | (with_reducible refine (I3.out _).mono ?_)); rintro e w' ⟨rfl, rfl⟩)
    go_ret
    exact ⟨rfl, HB.out⟩
  · have hx : 16384 < x := by omega
    go_enter Try.func9, Try.ntmps9
    go_wp2_with (first
      | (go_at_call 13; (with_reducible refine (CT.out).mono ?_); rintro e w3 ⟨rfl, hb3⟩; have HB3 := Lib.hid (HB.out.trans (hb3.mono HB.out.size)); clear hb3)
      | (go_at_call 26; (first
         | (with_reducible refine (I0.out _).mono ?_)
         | (with_reducible refine (I1.out _).mono ?_)
         | (with_reducible refine (I2.out _).mono ?_)
         | (with_reducible refine (I3.out _).mono ?_)); rintro e w' ⟨rfl, rfl⟩))
    go_ret
    exact ⟨rfl, HB3.out⟩
end Go.Proofs.Ytlmpaelcnnnkfaa

/-
  Layer 18: the reference's SameMaps.
-/
namespace Go.Proofs.Ytlmpaelcnnnkfaa
open Go.RowKit
set_option linter.unusedVariables false
set_option linter.unusedSimpArgs false

set_option maxRecDepth 100000 in
set_option maxHeartbeats 1600000 in
theorem refSameMaps_any18 (A A2 : Option Addr) (n c n2 c2 : Nat) (l l2 : List (Int × Int × Int)) (w : World) (h : Trs w A n c l) (h2 : Trs w A2 n2 c2 l2) (r : Bool) (hr : decide (l = l2) = r) :
    Calls Try.prog 34 #[.slice A n c, .slice A2 n2 c2] w fun e w' => e = .returned (.bool r) ∧ Below w.heap.size w w' := by
  have hle : n ≤ 9223372036854775807 := Nat.le_trans h.cap h.most
  have hle2 : n2 ≤ 9223372036854775807 := Nat.le_trans h2.cap h2.most
  have hl := h.len
  have hl2 := h2.len
  by_cases hn : n = n2
  · subst hn
    have HR := Lib.hid hr
    have HC := Lib.hid (fun (k : Nat) (hk : k < n) => trs_at18 h hk)
    have HC2 := Lib.hid (fun (k : Nat) (hk : k < n) => trs_at18 h2 hk)
    clear h h2 hr
    go_enter Try.func34, Try.ntmps34
    go_wp2
    go_loopw [5] (fun i wr => ∃ k : Nat, k ≤ n ∧ i = .int .i64 k ∧ Hid (l.take k = l2.take k) ∧ Hid (Below w.heap.size w wr)) (fun i _ => n - (intOf i).toNat)
    case atStart => exact ⟨0, by omega, rfl, rfl, Below.refl _ _⟩
    case round =>
      obtain ⟨k, hk, rfl, hT, hbel⟩ := hrel
      by_cases hlt : k < n
      · obtain ⟨b, off, x0, x1, x2, rfl, hb, hx, hkl, d0, d1, d2⟩ := HC.out k hlt
        obtain ⟨b2, off2, y0, y1, y2, rfl, hb2, hy, hkl2, e0, e1, e2⟩ := HC2.out k hlt
        rw [getD18 hkl] at hx
        rw [getD18 hkl2] at hy
        have c0 := (hbel.out.cell (p := ⟨b, off + k * 3, none⟩) hb).trans d0
        have c1 := (hbel.out.cell (p := ⟨b, off + k * 3 + 1, none⟩) hb).trans d1
        have c2 := (hbel.out.cell (p := ⟨b, off + k * 3 + 2, none⟩) hb).trans d2
        have g0 := (hbel.out.cell (p := ⟨b2, off2 + k * 3, none⟩) hb2).trans e0
        have g1 := (hbel.out.cell (p := ⟨b2, off2 + k * 3 + 1, none⟩) hb2).trans e1
        have g2 := (hbel.out.cell (p := ⟨b2, off2 + k * 3 + 2, none⟩) hb2).trans e2
        clear d0 d1 d2 e0 e1 e2
        by_cases hxy : x0 = y0 ∧ x1 = y1 ∧ x2 = y2
        · obtain ⟨rfl, rfl, rfl⟩ := hxy
          have hT1 : Hid (l.take (k + 1) = l2.take (k + 1)) := by
            rw [List.take_succ_eq_append_getElem hkl, List.take_succ_eq_append_getElem hkl2, hT.out, hx, hy]; rfl
          clear hx hy
          go_wp2
          go_region
          all_goals go_wp2
          all_goals go_roundw
          all_goals first
            | exact ⟨k + 1, by omega, by push_cast; rfl, hT1, hbel.out.drew⟩
            | (simp only [intOf]; omega)
        · obtain rfl : false = r := by
            rw [← HR.out]
            symm
            apply decide_eq_false
            intro h
            subst h
            rw [hx] at hy
            exact hxy (by simpa using hy)
          clear hx hy
          have hc3 : ¬ x0 = y0 ∨ (x0 = y0 ∧ ¬ x1 = y1) ∨ (x0 = y0 ∧ x1 = y1 ∧ ¬ x2 = y2) := by
            by_cases a : x0 = y0
            · by_cases b : x1 = y1
              · by_cases c : x2 = y2
                · exact absurd ⟨a, b, c⟩ hxy
                · exact .inr (.inr ⟨a, b, c⟩)
              · exact .inr (.inl ⟨a, b⟩)
            · exact .inl a
          clear hxy
          rcases hc3 with hne | ⟨rfl, hne⟩ | ⟨rfl, rfl, hne⟩
          all_goals
            go_wp2
            go_region
            all_goals go_wp2
            all_goals go_ret
            all_goals exact ⟨rfl, hbel.out.drew⟩
      · obtain rfl : k = n := by omega
        obtain rfl : true = r := by
          rw [← HR.out]
          symm
          apply decide_eq_true
          have := hT.out
          rwa [List.take_of_length_le (by omega), List.take_of_length_le (by omega)] at this
        go_wp2
        go_ret
        exact ⟨rfl, hbel.out⟩
  · obtain rfl : false = r := by
      rw [← hr]
      symm
      apply decide_eq_false
      intro h
      subst h
      omega
    have hnI : ¬ (n : Int) = (n2 : Int) := by omega
    clear h h2 hr
    go_enter Try.func34, Try.ntmps34
    go_wp2
    go_ret
    exact ⟨rfl, Below.refl _ _⟩
end Go.Proofs.Ytlmpaelcnnnkfaa

/-
  Layer 18: the reference's SameDevice.
-/
namespace Go.Proofs.Ytlmpaelcnnnkfaa
open Go.RowKit
set_option linter.unusedVariables false
set_option linter.unusedSimpArgs false

theorem SamD18.eq {a b : Dev18} (h : SamD18 a b) : a = b := by
  cases a; cases b
  obtain ⟨h1, h2, h3, h4, h5⟩ := h
  simp only at h1 h2 h3 h4 h5
  subst h1 h2 h3 h4 h5
  rfl

set_option maxRecDepth 100000 in
set_option maxHeartbeats 3200000 in
theorem refSameDevice_any18 (a b : Dev18) (A A2 : Option Addr) (n c n2 c2 : Nat) (w : World) (h : Trs w A n c a.maps) (h2 : Trs w A2 n2 c2 b.maps) (r : Bool) (hr : decide (SamD18 a b) = r) :
    Calls Try.prog 21 #[devV18 a A n c, devV18 b A2 n2 c2] w fun e w' => e = .returned (.bool r) ∧ Below w.heap.size w w' := by
  obtain ⟨W0, hW0⟩ : ∃ W0, w.alloc (.cells #[.int .i64 a.id, .int .i64 a.tx, .int .i64 a.made, .int .i64 a.snap, .slice A n c] 32) = W0 := ⟨_, rfl⟩
  obtain ⟨W1, hW1⟩ : ∃ W1, W0.alloc (.cells #[.int .i64 b.id, .int .i64 b.tx, .int .i64 b.made, .int .i64 b.snap, .slice A2 n2 c2] 32) = W1 := ⟨_, rfl⟩
  have hs0 : W0.heap.size = w.heap.size + 1 := by rw [← hW0]; exact World.size_alloc _ _
  have hb0 : Below w.heap.size w W0 := by rw [← hW0]; exact (Below.refl _ _).alloc (Nat.le_refl _) _
  have hb01 : Below W0.heap.size W0 W1 := by rw [← hW1]; exact (Below.refl _ _).alloc (Nat.le_refl _) _
  have hb1 : Below w.heap.size w W1 := hb0.trans (hb01.mono (by omega))
  have hR0 : DevC W0 w.heap.size (.int .i64 a.id) (.int .i64 a.tx) (.int .i64 a.made) (.int .i64 a.snap) (.slice A n c) := by rw [← hW0]; exact heap_alloc_new w _
  have hR1 : DevC W1 w.heap.size (.int .i64 a.id) (.int .i64 a.tx) (.int .i64 a.made) (.int .i64 a.snap) (.slice A n c) := (hb01.block _ (by omega)).trans hR0
  have hV1 : DevC W1 (w.heap.size + 1) (.int .i64 b.id) (.int .i64 b.tx) (.int .i64 b.made) (.int .i64 b.snap) (.slice A2 n2 c2) := by
    have := heap_alloc_new W0 (.cells #[.int .i64 b.id, .int .i64 b.tx, .int .i64 b.made, .int .i64 b.snap, .slice A2 n2 c2] 32)
    rw [hW1, hs0] at this
    exact this
  obtain ⟨⟨x0, x1, x2, x3, x4⟩, _⟩ := hR1.cs
  obtain ⟨⟨y0, y1, y2, y3, y4⟩, _⟩ := hV1.cs
  have HB := Lib.hid hb1
  have SM := Lib.hid (refSameMaps_any18 A A2 n c n2 c2 a.maps b.maps W1 (h.below hb1) (h2.below hb1) _ rfl)
  have hr' : (r = true) = (a.id = b.id ∧ a.tx = b.tx ∧ a.made = b.made ∧ a.snap = b.snap ∧ decide (a.maps = b.maps) = true) := by
    rw [← hr, decide_eq_true_eq, decide_eq_true_eq]
    rfl
  unfold devV18
  generalize decide (a.maps = b.maps) = rm at *
  clear h h2 hr hb0 hb01 hb1 hR0 hR1 hV1
  generalize a.id = u0 at *
  generalize a.tx = u1 at *
  generalize a.made = u2 at *
  generalize a.snap = u3 at *
  generalize b.id = z0 at *
  generalize b.tx = z1 at *
  generalize b.made = z2 at *
  generalize b.snap = z3 at *
  by_cases e0 : u0 = z0
  · by_cases e1 : u1 = z1
    · by_cases e2 : u2 = z2
      · by_cases e3 : u3 = z3
        · obtain rfl : r = rm := by cases r <;> cases rm <;> simp [e0, e1, e2, e3] at hr' <;> rfl
          subst e0 e1 e2 e3
          clear hr'
          go_enter Try.func21, Try.ntmps21
          go_wp2_with (go_at_call 34; (with_reducible refine (SM.out).mono ?_); rintro e w3 ⟨rfl, hb3⟩; have HB3 := Lib.hid (HB.out.trans (hb3.mono HB.out.size)); clear hb3)
          go_ret
          exact ⟨rfl, HB3.out⟩
        · obtain rfl : r = false := by cases r <;> simp [e3] at hr' <;> rfl
          subst e0 e1 e2
          clear hr'
          go_enter Try.func21, Try.ntmps21
          go_wp2
          go_ret
          exact ⟨rfl, HB.out⟩
      · obtain rfl : r = false := by cases r <;> simp [e2] at hr' <;> rfl
        subst e0 e1
        clear hr'
        go_enter Try.func21, Try.ntmps21
        go_wp2
        go_ret
        exact ⟨rfl, HB.out⟩
    · obtain rfl : r = false := by cases r <;> simp [e1] at hr' <;> rfl
      subst e0
      clear hr'
      go_enter Try.func21, Try.ntmps21
      go_wp2
      go_ret
      exact ⟨rfl, HB.out⟩
  · obtain rfl : r = false := by cases r <;> simp [e0] at hr' <;> rfl
    clear hr'
    go_enter Try.func21, Try.ntmps21
    go_wp2
    go_ret
    exact ⟨rfl, HB.out⟩
end Go.Proofs.Ytlmpaelcnnnkfaa

/-
  Layer 18: the reference's Same.
-/
namespace Go.Proofs.Ytlmpaelcnnnkfaa
open Go.RowKit
set_option linter.unusedVariables false
set_option linter.unusedSimpArgs false

/-- are pools the same -/
def SamP18 (p q : Pol18) : Prop := p.tx = q.tx ∧ p.time = q.time ∧ p.unit = q.unit ∧ p.data = q.data ∧ p.devs = q.devs
set_option maxRecDepth 100000 in
set_option maxHeartbeats 3200000 in
theorem refPolSame_any18 (p q : Pol18) (A A2 : Option Addr) (n c n2 c2 : Nat) (w : World) (h : Dvs w A n c p.devs) (h2 : Dvs w A2 n2 c2 q.devs) (r : Bool) (hr : r = true ↔ SamP18 p q) :
    Calls Try.prog 11 #[polV18 p A n c, polV18 q A2 n2 c2] w fun e w' => e = .returned (.bool r) ∧ Below w.heap.size w w' := by
  have hle : n ≤ 9223372036854775807 := Nat.le_trans h.cap h.most
  have hle2 : n2 ≤ 9223372036854775807 := Nat.le_trans h2.cap h2.most
  have hl := h.len
  have hl2 := h2.len
  obtain ⟨W0, hW0⟩ : ∃ W0, w.alloc (.cells #[.int .i64 p.tx, .int .i64 p.time, .int .i64 p.unit, .int .i64 p.data, .slice A n c] 24) = W0 := ⟨_, rfl⟩
  obtain ⟨W1, hW1⟩ : ∃ W1, W0.alloc (.cells #[.int .i64 q.tx, .int .i64 q.time, .int .i64 q.unit, .int .i64 q.data, .slice A2 n2 c2] 24) = W1 := ⟨_, rfl⟩
  have hs0 : W0.heap.size = w.heap.size + 1 := by rw [← hW0]; exact World.size_alloc _ _
  have hs1 : W1.heap.size = w.heap.size + 2 := by rw [← hW1, World.size_alloc, hs0]
  have hb0 : Below w.heap.size w W0 := by rw [← hW0]; exact (Below.refl _ _).alloc (Nat.le_refl _) _
  have hb01 : Below W0.heap.size W0 W1 := by rw [← hW1]; exact (Below.refl _ _).alloc (Nat.le_refl _) _
  have hb1 : Below w.heap.size w W1 := hb0.trans (hb01.mono (by omega))
  have hR0 : PolC W0 w.heap.size (.int .i64 p.tx) (.int .i64 p.time) (.int .i64 p.unit) (.int .i64 p.data) (.slice A n c) := by rw [← hW0]; exact heap_alloc_new w _
  have hR1 : PolC W1 w.heap.size (.int .i64 p.tx) (.int .i64 p.time) (.int .i64 p.unit) (.int .i64 p.data) (.slice A n c) := (hb01.block _ (by omega)).trans hR0
  have hV1 : PolC W1 (w.heap.size + 1) (.int .i64 q.tx) (.int .i64 q.time) (.int .i64 q.unit) (.int .i64 q.data) (.slice A2 n2 c2) := by
    have := heap_alloc_new W0 (.cells #[.int .i64 q.tx, .int .i64 q.time, .int .i64 q.unit, .int .i64 q.data, .slice A2 n2 c2] 24)
    rw [hW1, hs0] at this
    exact this
  obtain ⟨x0, x1, x2, x3, x4⟩ := hR1.cs
  obtain ⟨y0, y1, y2, y3, y4⟩ := hV1.cs
  have HR1 := Lib.hid hR1
  have HV1 := Lib.hid hV1
  have HB := Lib.hid hb1
  have HD := Lib.hid h
  have HD2 := Lib.hid h2
  have hr' : (r = true) = (p.tx = q.tx ∧ p.time = q.time ∧ p.unit = q.unit ∧ p.data = q.data ∧ p.devs = q.devs) := propext hr
  clear h h2 hr hb0 hb01 hb1 hR0 hR1 hV1
  unfold polV18
  have hlen : p.devs = q.devs → n = n2 := fun e => by rw [← hl, ← hl2, e]
  generalize p.devs = ds at *
  generalize q.devs = es at *
  generalize p.tx = u0 at *
  generalize p.time = u1 at *
  generalize p.unit = u2 at *
  generalize p.data = u3 at *
  generalize q.tx = z0 at *
  generalize q.time = z1 at *
  generalize q.unit = z2 at *
  generalize q.data = z3 at *
  by_cases e0 : u0 = z0
  · by_cases e1 : u1 = z1
    · by_cases e2 : u2 = z2
      · by_cases e3 : u3 = z3
        · by_cases e4 : n = n2
          · subst e0 e1 e2 e3 e4
            have HR : Hid ((r = true) ↔ ds = es) := Lib.hid (by rw [hr']; simp)
            clear hr' hlen
            go_enter Try.func11, Try.ntmps11
            go_wp2
            go_loopw [5] (fun i wr => ∃ k : Nat, k ≤ n ∧ i = .int .i64 k ∧ Hid (ds.take k = es.take k) ∧ Hid (Below (w.heap.size + 2) W1 wr)) (fun i _ => n - (intOf i).toNat)
            case atStart => exact ⟨0, by omega, rfl, rfl, Below.refl _ _⟩
            case round =>
              obtain ⟨k, hk, rfl, hT, hbel⟩ := hrel
              have hbw : Below w.heap.size w wr := HB.out.trans (hbel.out.mono (by omega))
              have hP := HR1.out.later hbel.out (by omega)
              have hQ := HV1.out.later hbel.out (by omega)
              obtain ⟨_, _, _, _, px4⟩ := hP.cs
              obtain ⟨_, _, _, _, py4⟩ := hQ.cs
              clear hP hQ
              by_cases hlt : k < n
              · obtain ⟨b, off, A', m, c', rfl, hb, d0, d1, d2, d3, d4, hTm⟩ := HD.out.at18 hlt
                obtain ⟨b2, off2, A3, m3, c3, rfl, hb2, f0, f1, f2, f3, f4, hTm2⟩ := HD2.out.at18 hlt
                have g0 := (hbw.cell (p := ⟨b, off + k * 5, none⟩) hb).trans d0
                have g1 := (hbw.cell (p := ⟨b, off + k * 5 + 1, none⟩) hb).trans d1
                have g2 := (hbw.cell (p := ⟨b, off + k * 5 + 2, none⟩) hb).trans d2
                have g3 := (hbw.cell (p := ⟨b, off + k * 5 + 3, none⟩) hb).trans d3
                have g4 := (hbw.cell (p := ⟨b, off + k * 5 + 4, none⟩) hb).trans d4
                have k0 := (hbw.cell (p := ⟨b2, off2 + k * 5, none⟩) hb2).trans f0
                have k1 := (hbw.cell (p := ⟨b2, off2 + k * 5 + 1, none⟩) hb2).trans f1
                have k2 := (hbw.cell (p := ⟨b2, off2 + k * 5 + 2, none⟩) hb2).trans f2
                have k3 := (hbw.cell (p := ⟨b2, off2 + k * 5 + 3, none⟩) hb2).trans f3
                have k4 := (hbw.cell (p := ⟨b2, off2 + k * 5 + 4, none⟩) hb2).trans f4
                have SD : Hid (∀ W, Below wr.heap.size wr W → Calls Try.prog 21 #[.agg #[.int .i64 (ds.getD k zero18).id, .int .i64 (ds.getD k zero18).tx, .int .i64 (ds.getD k zero18).made, .int .i64 (ds.getD k zero18).snap, .slice A' m c'], .agg #[.int .i64 (es.getD k zero18).id, .int .i64 (es.getD k zero18).tx, .int .i64 (es.getD k zero18).made, .int .i64 (es.getD k zero18).snap, .slice A3 m3 c3]] W fun e w' => e = .returned (.bool (decide (SamD18 (ds.getD k zero18) (es.getD k zero18)))) ∧ Hid (Below (w.heap.size + 2) W1 w')) := fun W hW => by
                  have hwW : Below w.heap.size w W := hbw.trans (hW.mono hbw.size)
                  have hs := hbel.out.size
                  have hsW := hW.size
                  refine (refSameDevice_any18 (ds.getD k zero18) (es.getD k zero18) A' A3 m c' m3 c3 W (hTm.below hwW) (hTm2.below hwW) _ rfl).mono ?_
                  rintro e w' ⟨h1, h3⟩
                  exact ⟨h1, hbel.out.trans ((hW.mono (by omega)).trans (h3.mono (by omega)))⟩
                have hkl : k < ds.length := by omega
                have hkl2 : k < es.length := by omega
                have hsam : Hid (SamD18 (ds.getD k zero18) (es.getD k zero18) ↔ ds[k] = es[k]) := by
                  rw [getD18 hkl, getD18 hkl2]
                  exact ⟨fun h => h.eq, fun h => by rw [h]; exact ⟨rfl, rfl, rfl, rfl, rfl⟩⟩
                clear d0 d1 d2 d3 d4 f0 f1 f2 f3 f4 hTm hTm2
                by_cases hs : SamD18 (ds.getD k zero18) (es.getD k zero18)
                · have hT1 : Hid (ds.take (k + 1) = es.take (k + 1)) := by
                    rw [List.take_succ_eq_append_getElem hkl, List.take_succ_eq_append_getElem hkl2, hT.out, hsam.out.1 hs]; rfl
                  have hdt : decide (SamD18 (ds.getD k zero18) (es.getD k zero18)) = true := decide_eq_true hs
                  rw [hdt] at SD
                  clear hdt hs hsam
                  generalize ds.getD k zero18 = d at *
                  generalize es.getD k zero18 = d' at *
                  go_wp2
                  go_region_with (go_at_call 21; (with_reducible refine (SD.out _ (by first | exact Below.refl _ _ | exact (Below.refl _ _).drew | exact below_drewN (Below.refl _ _) _)).mono ?_); rintro e w6 ⟨rfl, hb6⟩)
                  all_goals go_wp2
                  all_goals go_roundw
                  all_goals first
                    | exact ⟨k + 1, by omega, by push_cast; rfl, hT1, hb6⟩
                    | (simp only [intOf]; omega)
                · obtain rfl : r = false := by
                    cases r
                    · rfl
                    · exfalso
                      have := HR.out.1 rfl
                      subst this
                      exact hs (hsam.out.2 rfl)
                  have hdf : decide (SamD18 (ds.getD k zero18) (es.getD k zero18)) = false := decide_eq_false hs
                  rw [hdf] at SD
                  clear hdf hs hsam
                  generalize ds.getD k zero18 = d at *
                  generalize es.getD k zero18 = d' at *
                  go_wp2
                  go_region_with (go_at_call 21; (with_reducible refine (SD.out _ (by first | exact Below.refl _ _ | exact (Below.refl _ _).drew | exact below_drewN (Below.refl _ _) _)).mono ?_); rintro e w6 ⟨rfl, hb6⟩)
                  all_goals go_wp2
                  all_goals go_ret
                  all_goals exact ⟨rfl, HB.out.trans (hb6.out.mono (by omega))⟩
              · obtain rfl : k = n := by omega
                obtain rfl : r = true := HR.out.2 (by
                  have := hT.out
                  rwa [List.take_of_length_le (by omega), List.take_of_length_le (by omega)] at this)
                go_wp2
                go_ret
                exact ⟨rfl, hbw⟩
          · obtain rfl : r = false := by
              cases r
              · rfl
              · exfalso
                rw [eq_self_iff_true] at hr'
                exact e4 (hlen (of_eq_true hr'.symm).2.2.2.2)
            have hnI : ¬ (n : Int) = (n2 : Int) := by omega
            subst e0 e1 e2 e3
            clear hr'
            go_enter Try.func11, Try.ntmps11
            go_wp2
            go_ret
            exact ⟨rfl, HB.out⟩
        · obtain rfl : r = false := by cases r <;> simp [e3] at hr' <;> rfl
          subst e0 e1 e2
          clear hr'
          go_enter Try.func11, Try.ntmps11
          go_wp2
          go_ret
          exact ⟨rfl, HB.out⟩
      · obtain rfl : r = false := by cases r <;> simp [e2] at hr' <;> rfl
        subst e0 e1
        clear hr'
        go_enter Try.func11, Try.ntmps11
        go_wp2
        go_ret
        exact ⟨rfl, HB.out⟩
    · obtain rfl : r = false := by cases r <;> simp [e1] at hr' <;> rfl
      subst e0
      clear hr'
      go_enter Try.func11, Try.ntmps11
      go_wp2
      go_ret
      exact ⟨rfl, HB.out⟩
  · obtain rfl : r = false := by cases r <;> simp [e0] at hr' <;> rfl
    clear hr'
    go_enter Try.func11, Try.ntmps11
    go_wp2
    go_ret
    exact ⟨rfl, HB.out⟩
end Go.Proofs.Ytlmpaelcnnnkfaa

/-
  Layer 18: the reference's Check, its loops; Refs of a pool that may not be.
-/
namespace Go.Proofs.Ytlmpaelcnnnkfaa
open Go.RowKit
set_option linter.unusedVariables false
set_option linter.unusedSimpArgs false

theorem mapAt18_bad {data : Int} {l : List (Int × Int × Int)} {k : Nat} (h : mapR18 data (l.getD k (0, 0, 0)) = false) : mapAt18 data none l k = 2 := by unfold mapAt18; rw [if_pos h]
theorem mapAt18_first {data : Int} {l : List (Int × Int × Int)} (h : mapR18 data (l.getD 0 (0, 0, 0)) = true) : mapAt18 data none l 0 = 0 := by
  unfold mapAt18
  rw [if_neg (by rw [h]; decide), if_neg (by rintro ⟨y, hy, _⟩; simp at hy)]
theorem mapAt18_ord {data : Int} {l : List (Int × Int × Int)} {k : Nat} (h : mapR18 data (l.getD k (0, 0, 0)) = true) (hk : 0 < k) (ho : (l.getD k (0, 0, 0)).1 ≤ (l.getD (k - 1) (0, 0, 0)).1) : mapAt18 data none l k = 8 := by
  unfold mapAt18
  rw [if_neg (by rw [h]; decide), if_pos ⟨_, by rw [if_neg (by omega)], ho⟩]
theorem mapAt18_good {data : Int} {l : List (Int × Int × Int)} {k : Nat} (h : mapR18 data (l.getD k (0, 0, 0)) = true) (hk : 0 < k) (ho : ¬ (l.getD k (0, 0, 0)).1 ≤ (l.getD (k - 1) (0, 0, 0)).1) : mapAt18 data none l k = 0 := by
  unfold mapAt18
  rw [if_neg (by rw [h]; decide), if_neg (by
    rintro ⟨y, hy, h2⟩
    rw [if_neg (by omega)] at hy
    cases hy
    exact ho h2)]

theorem DevC.drew18 {W : World} {b : Nat} {v0 v1 v2 v3 v4 : Value} (h : DevC W b v0 v1 v2 v3 v4) (q : Nat) : DevC (W.drewN q) b v0 v1 v2 v3 v4 := ((below_drewN (Below.refl W.heap.size W) q).block b (block_lt h)).trans h
/-- what the loop over mappings wants: data in range, what was found till now, what may come -/
structure ChkI18 (data : Int) (ms : List (Int × Int × Int)) (F : Prop) (R : Int) : Prop where
  bad : ∀ k e, k < ms.length → (∀ j, j < k → mapAt18 data none ms j = 0) → mapAt18 data none ms k = e → e ≠ 0 → R = e
  all : (∀ j, j < ms.length → mapAt18 data none ms j = 0) → F

set_option maxRecDepth 100000 in
set_option maxHeartbeats 6400000 in
theorem refCheck_good18 (p : Pol18) (A : Option Addr) (n c : Nat) (w : World) (h : Dvs w A n c p.devs) (hc : cnt18 p.devs ≤ 1000000) (hh : headR18 p = true) (h2 : ¬ (4096 < p.devs.length ∨ 16384 < cnt18 p.devs)) :
    Calls Try.prog 9 #[polV18 p A n c] w fun e w' => e = .returned (.int .i64 (chkE18 p)) ∧ Below w.heap.size w w' := by
  rw [chkE18_devs hh h2]
  have hle : n ≤ 9223372036854775807 := Nat.le_trans h.cap h.most
  have hl := h.len
  have hn4 : n ≤ 4096 := by omega
  obtain ⟨W0, hW0⟩ : ∃ W0, w.alloc (.cells #[.int .i64 p.tx, .int .i64 p.time, .int .i64 p.unit, .int .i64 p.data, .slice A n c] 24) = W0 := ⟨_, rfl⟩
  have hs0 : W0.heap.size = w.heap.size + 1 := by rw [← hW0]; exact World.size_alloc _ _
  have hb0 : Below w.heap.size w W0 := by rw [← hW0]; exact (Below.refl _ _).alloc (Nat.le_refl _) _
  have hR0 : PolC W0 w.heap.size (.int .i64 p.tx) (.int .i64 p.time) (.int .i64 p.unit) (.int .i64 p.data) (.slice A n c) := by rw [← hW0]; exact heap_alloc_new w _
  obtain ⟨c0, c1, c2, c3, c4⟩ := hR0.cs
  have HB := Lib.hid hb0
  have CT := Lib.hid (refCount_any18 p A n c W0 (h.below hb0) hc)
  unfold polV18 at CT
  have hx16 : cnt18 p.devs ≤ 16384 := by omega
  have I0 := Lib.hid (fun W => refIn_any18 p.tx 0 2147483647 W)
  have I1 := Lib.hid (fun W => refIn_any18 p.time 0 16777215 W)
  have I2 := Lib.hid (fun W => refIn_any18 p.unit 1 65536 W)
  have I3 := Lib.hid (fun W => refIn_any18 p.data 0 65536 W)
  unfold headR18 at hh
  simp only [Bool.and_eq_true] at hh
  obtain ⟨⟨⟨r0, r1⟩, r2⟩, r3⟩ := hh
  have hdt := in18_yes.1 r3
  rw [r0] at I0
  rw [r1] at I1
  rw [r2] at I2
  rw [r3] at I3
  have HD := Lib.hid (h.below hb0)
  obtain ⟨R, hR⟩ : ∃ R, devsE18 p.data none p.devs = R := ⟨_, rfl⟩
  rw [hR]
  have BD : Hid (∀ i e, i < n → (∀ j, j < i → devAt18 p.data none p.devs j = 0) → devS18 none p.devs i = e → e ≠ 0 → R = e) := fun i e hi hj he h0 => by
    have hd : devAt18 p.data none p.devs i = e := by rw [devAt18, if_pos (by rw [he]; exact h0), he]
    rw [← hR, devsE18_bad (k := i) (by omega) hj (by rw [hd]; exact h0), hd]
  have CI : Hid (∀ i, i < n → (∀ j, j < i → devAt18 p.data none p.devs j = 0) → devS18 none p.devs i = 0 → ChkI18 p.data (p.devs.getD i zero18).maps (∀ j, j < i + 1 → devAt18 p.data none p.devs j = 0) R) := fun i hi hj hs => by
    have hd : devAt18 p.data none p.devs i = mapsE18 p.data none (p.devs.getD i zero18).maps := by rw [devAt18, if_neg (by rw [hs]; simp)]
    refine ⟨fun k e hk hjk he h0 => ?_, fun hall j hji => ?_⟩
    · have hm := mapsE18_bad hk hjk (by rw [he]; exact h0)
      rw [he] at hm
      rw [← hR, devsE18_bad (k := i) (by omega) hj (by rw [hd, hm]; exact h0), hd, hm]
    · by_cases e : j = i
      · rw [e, hd]; exact mapsE18_good hall
      · exact hj j (by omega)
  have EN : Hid ((∀ j, j < n → devAt18 p.data none p.devs j = 0) → R = 0) := fun hj => by rw [← hR]; exact devsE18_good (by rw [hl]; exact hj)
  clear h hb0 hR0 hR r0 r1 r2 r3 h2 hc
  unfold polV18
  generalize cnt18 p.devs = x at *
  generalize p.tx = v0 at *
  generalize p.time = v1 at *
  generalize p.unit = v2 at *
  generalize p.data = data at *
  generalize p.devs = ds at *
  go_enter Try.func9, Try.ntmps9
  go_wp2_with (first
    | (go_at_call 13; (with_reducible refine (CT.out).mono ?_); rintro e w3 ⟨rfl, hb3⟩; have HB3 := Lib.hid (hb3.mono (by omega : w.heap.size + 1 ≤ W0.heap.size)); clear hb3)
    | (go_at_call 26; (first
       | (with_reducible refine (I0.out _).mono ?_)
       | (with_reducible refine (I1.out _).mono ?_)
       | (with_reducible refine (I2.out _).mono ?_)
       | (with_reducible refine (I3.out _).mono ?_)); rintro e w' ⟨rfl, rfl⟩))
  clear I0 I1 I2 I3 CT
  go_loopw [3] (fun v wr => ∃ (i : Nat), i ≤ n ∧ v = .int .i64 i ∧ Hid (∀ j, j < i → devAt18 data none ds j = 0) ∧ Hid (Below (w.heap.size + 1) W0 wr)) (fun v _ => n - (intOf v).toNat)
  case atStart => exact ⟨0, by omega, rfl, fun j hj => by omega, HB3⟩
  case round =>
    obtain ⟨i, hi, rfl, hJ, hbel⟩ := hrel
    have hs1 : w.heap.size + 1 ≤ wr.heap.size := by have := hbel.out.size; omega
    have k3 := (hbel.out.cell (p := ⟨w.heap.size, 3, none⟩) (Nat.lt_succ_self _)).trans c3
    have k4 := (hbel.out.cell (p := ⟨w.heap.size, 4, none⟩) (Nat.lt_succ_self _)).trans c4
    by_cases hlt : i < n
    · obtain ⟨b, off, A', m, c', rfl, hb, d0, d1, d2, d3, d4, hT⟩ := HD.out.at18 hlt
      have hb' : b < w.heap.size + 1 := by omega
      have g0 := (hbel.out.cell (p := ⟨b, off + i * 5, none⟩) hb').trans d0
      have g1 := (hbel.out.cell (p := ⟨b, off + i * 5 + 1, none⟩) hb').trans d1
      have g2 := (hbel.out.cell (p := ⟨b, off + i * 5 + 2, none⟩) hb').trans d2
      have g3 := (hbel.out.cell (p := ⟨b, off + i * 5 + 3, none⟩) hb').trans d3
      have g4 := (hbel.out.cell (p := ⟨b, off + i * 5 + 4, none⟩) hb').trans d4
      have hba := hbel.out.alloc hs1 (.cells #[.int .i64 (ds.getD i zero18).id, .int .i64 (ds.getD i zero18).tx, .int .i64 (ds.getD i zero18).made, .int .i64 (ds.getD i zero18).snap, .slice A' m c'] 32)
      have HBA := Lib.hid hba
      have ka3 := (hba.cell (p := ⟨w.heap.size, 3, none⟩) (Nat.lt_succ_self _)).trans c3
      have ka4 := (hba.cell (p := ⟨w.heap.size, 4, none⟩) (Nat.lt_succ_self _)).trans c4
      have hDC : DevC (wr.alloc (.cells #[.int .i64 (ds.getD i zero18).id, .int .i64 (ds.getD i zero18).tx, .int .i64 (ds.getD i zero18).made, .int .i64 (ds.getD i zero18).snap, .slice A' m c'] 32)) wr.heap.size (.int .i64 (ds.getD i zero18).id) (.int .i64 (ds.getD i zero18).tx) (.int .i64 (ds.getD i zero18).made) (.int .i64 (ds.getD i zero18).snap) (.slice A' m c') := heap_alloc_new wr _
      have HDC := Lib.hid hDC
      have HT := Lib.hid hT
      have hml := hT.len
      have hme : m ≤ 9223372036854775807 := Nat.le_trans hT.cap hT.most
      have BDi := Lib.hid (fun e => BD.out i e hlt hJ.out)
      have CIi := Lib.hid (CI.out i hlt hJ.out)
      have SB := Lib.hid (devS18_bad (ds := ds) (k := i))
      have SO := Lib.hid (devS18_ord (ds := ds) (k := i))
      have SG := Lib.hid (devS18_good (ds := ds) (k := i))
      have SF : Hid (i = 0 → devR18 (ds.getD i zero18) = true → devS18 none ds i = 0) := fun e h => by subst e; exact devS18_first h
      have hRd : Hid (devR18 (ds.getD i zero18) = (in18 (ds.getD i zero18).id 0 16777215 && in18 (ds.getD i zero18).tx 0 2147483647 && in18 (ds.getD i zero18).made 0 16777215 && in18 (ds.getD i zero18).snap 0 16777215)) := Lib.hid rfl
      have I0 := Lib.hid (fun W => refIn_any18 (ds.getD i zero18).id 0 16777215 W)
      have I1 := Lib.hid (fun W => refIn_any18 (ds.getD i zero18).tx 0 2147483647 W)
      have I2 := Lib.hid (fun W => refIn_any18 (ds.getD i zero18).made 0 16777215 W)
      have I3 := Lib.hid (fun W => refIn_any18 (ds.getD i zero18).snap 0 16777215 W)
      clear d0 d1 d2 d3 d4 hT hba hDC
      by_cases hRR : devR18 (ds.getD i zero18) = true
      · have hall : in18 (ds.getD i zero18).id 0 16777215 = true ∧ in18 (ds.getD i zero18).tx 0 2147483647 = true ∧ in18 (ds.getD i zero18).made 0 16777215 = true ∧ in18 (ds.getD i zero18).snap 0 16777215 = true := by
          have := hRd.out
          rw [hRR] at this
          have := this.symm
          simp only [Bool.and_eq_true] at this
          exact ⟨this.1.1.1, this.1.1.2, this.1.2, this.2⟩
        rw [hall.1] at I0
        rw [hall.2.1] at I1
        rw [hall.2.2.1] at I2
        rw [hall.2.2.2] at I3
        clear hall hRd SB
        by_cases hi0 : i = 0
        · have CC := Lib.hid (CIi.out (SF.out hi0 hRR))
          have hkd2 : decide (0 < i) = false := by simpa using hi0
          have hkz : ¬ (0 : Int) < (i : Int) := by omega
          have hkd : decide ((0 : Int) < (i : Int)) = false := by simpa using hkz
          clear SO SG SF BDi CIi hRR hi0
          generalize (ds.getD i zero18) = d at *
          go_wp2_with (go_at_call 26; (first
            | (with_reducible refine (I0.out _).mono ?_)
            | (with_reducible refine (I1.out _).mono ?_)
            | (with_reducible refine (I2.out _).mono ?_)
            | (with_reducible refine (I3.out _).mono ?_)); rintro e w' ⟨rfl, rfl⟩)
          go_quiet (fail)
          go_wp2
          generalize wr.heap.size = D at *
          go_loopw [5] (fun v wr => ∃ (k : Nat), k ≤ m ∧ v = .int .i64 k ∧ Hid (∀ j, j < k → mapAt18 data none d.maps j = 0) ∧ Hid (Below (w.heap.size + 1) W0 wr) ∧ Hid (DevC wr D (.int .i64 d.id) (.int .i64 d.tx) (.int .i64 d.made) (.int .i64 d.snap) (.slice A' m c'))) (fun v _ => m - (intOf v).toNat)
          case atStart => exact ⟨0, by omega, rfl, fun j hj => by omega, below_drewN HBA.out _, HDC.out.drew18 _⟩
          case round =>
            clear HBA HDC g0 g1 g2 g3 g4 k3 k4 ka3 ka4 hbel I0 I1 I2 I3
            obtain ⟨k, hk, rfl, hJm, hbel, hDC⟩ := hrel
            obtain ⟨⟨e0, e1, e2, e3, e4⟩, _⟩ := hDC.out.cs
            have hsD := block_lt hDC.out
            have hs1 : w.heap.size + 1 ≤ wr.heap.size := by have := hbel.out.size; omega
            by_cases hkm : k < m
            · obtain ⟨b3, off3, y0, y1, y2, rfl, hb3, hx, hkl, t0, t1, t2⟩ := trs_at18 HT.out hkm
              have hb3' : b3 < w.heap.size + 1 := by omega
              have u0 := (hbel.out.cell (p := ⟨b3, off3 + k * 3, none⟩) hb3').trans t0
              have u1 := (hbel.out.cell (p := ⟨b3, off3 + k * 3 + 1, none⟩) hb3').trans t1
              have u2 := (hbel.out.cell (p := ⟨b3, off3 + k * 3 + 2, none⟩) hb3').trans t2
              have hba := hbel.out.alloc hs1 (.cells #[.int .i64 y0, .int .i64 y1, .int .i64 y2] 43)
              have HBA := Lib.hid hba
              have ka3 := (hba.cell (p := ⟨w.heap.size, 3, none⟩) (Nat.lt_succ_self _)).trans c3
              have hDa : DevC (wr.alloc (.cells #[.int .i64 y0, .int .i64 y1, .int .i64 y2] 43)) D (.int .i64 d.id) (.int .i64 d.tx) (.int .i64 d.made) (.int .i64 d.snap) (.slice (some ⟨b3, off3, none⟩) m c') := (Below.heap_alloc wr _ D hsD).trans hDC.out
              obtain ⟨⟨_, _, _, _, ea4⟩, _⟩ := hDa.cs
              have HDa := Lib.hid hDa
              have MB := Lib.hid (mapAt18_bad (data := data) (l := d.maps) (k := k))
              have MO := Lib.hid (mapAt18_ord (data := data) (l := d.maps) (k := k))
              have MG := Lib.hid (mapAt18_good (data := data) (l := d.maps) (k := k))
              have MF : Hid (k = 0 → mapR18 data (d.maps.getD k (0, 0, 0)) = true → mapAt18 data none d.maps k = 0) := fun e h => by subst e; exact mapAt18_first h
              rw [hx] at MB MO MG MF
              have hRd : Hid (mapR18 data (y0, y1, y2) = (in18 y0 0 281474976710655 && in18 y1 0 (data - 1) && in18 y2 0 16777215)) := Lib.hid rfl
              have J0 := Lib.hid (fun W => refIn_any18 y0 0 281474976710655 W)
              have J1 := Lib.hid (fun W => refIn_any18 y1 0 (data - 1) W)
              have J2 := Lib.hid (fun W => refIn_any18 y2 0 16777215 W)
              have NX : Hid (mapAt18 data none d.maps k = 0 → ∀ j, j < k + 1 → mapAt18 data none d.maps j = 0) := fun h j hj => by
                by_cases e : j = k
                · rw [e]; exact h
                · exact hJm.out j (by omega)
              have CB := Lib.hid (fun e => CC.out.bad k e hkl hJm.out)
              clear t1 t2 hx hba hDa
              by_cases hRR : mapR18 data (y0, y1, y2) = true
              · have hall : in18 y0 0 281474976710655 = true ∧ in18 y1 0 (data - 1) = true ∧ in18 y2 0 16777215 = true := by
                  have := hRd.out
                  rw [hRR] at this
                  have := this.symm
                  simp only [Bool.and_eq_true] at this
                  exact ⟨this.1.1, this.1.2, this.2⟩
                rw [hall.1] at J0
                rw [hall.2.1] at J1
                rw [hall.2.2] at J2
                clear hall hRd MB
                by_cases hk0 : k = 0
                · have HNX := Lib.hid (NX.out (MF.out hk0 hRR))
                  have hjd2 : decide (0 < k) = false := by simpa using hk0
                  have hjz : ¬ (0 : Int) < (k : Int) := by omega
                  have hjd : decide ((0 : Int) < (k : Int)) = false := by simpa using hjz
                  clear MO MG MF CB NX hRR hk0 t0
                  go_wp2_with (go_at_call 26; (first
          | (with_reducible refine (J0.out _).mono ?_)
          | (with_reducible refine (J1.out _).mono ?_)
          | (with_reducible refine (J2.out _).mono ?_)); rintro e w' ⟨rfl, rfl⟩)
                  go_quiet (fail)
                  go_wp2
                  go_roundw
                  all_goals first
                    | exact ⟨k + 1, by omega, by push_cast; rfl, HNX, below_drewN HBA.out _, HDa.out.drew18 _⟩
                    | (simp only [intOf]; omega)
                · obtain ⟨k', hkk⟩ : ∃ k', k = k' + 1 := ⟨k - 1, by omega⟩
                  obtain ⟨b4, off4, z1, z2, z3, e5, hb4, hx2, hkl2, s0, _, _⟩ := trs_at18 HT.out (k := k') (by omega)
                  cases e5
                  have q1 := (HBA.out.cell (p := ⟨b3, off3 + k' * 3, none⟩) hb3').trans s0
                  have ek : k - 1 = k' := by omega
                  rw [ek, hx2] at MO MG
                  have hw3 : IntKind.i64.wrap ((k : Int) - 1) = (k' : Int) := (IntWalk.i64_in _ (by omega)).trans (by omega)
                  have hw4 : IntKind.i64.wrap (k' : Int) = (k' : Int) := IntWalk.i64_in _ (by omega)
                  have hjp : 0 < k := by omega
                  have hjp2 : k' < m := by omega
                  have hjd : decide ((0 : Int) < (k : Int)) = true := by simpa using hjp
                  have hjd2 : decide (0 < k) = true := by simpa using hjp
                  have HKK2 := Lib.hid hkk
                  clear hkk ek hk0 MF t0 s0 hx2 hkl2
                  by_cases hyz : y0 ≤ z1
                  · obtain rfl : R = 8 := CB.out 8 (MO.out hRR hjp hyz) (by decide)
                    have hd3 : decide (y0 ≤ z1) = true := by simpa using hyz
                    clear MO MG CB NX hRR hyz
                    go_wp2_with (go_at_call 26; (first
            | (with_reducible refine (J0.out _).mono ?_)
            | (with_reducible refine (J1.out _).mono ?_)
            | (with_reducible refine (J2.out _).mono ?_)); rintro e w' ⟨rfl, rfl⟩)
                    go_quiet (fail)
                    go_wp2
                    go_ret
                    exact ⟨rfl, HB.out.trans ((below_drewN HBA.out _).mono (Nat.le_succ _))⟩
                  · have HNX := Lib.hid (NX.out (MG.out hRR hjp (by simpa using hyz)))
                    have hd3 : decide (y0 ≤ z1) = false := by simpa using hyz
                    clear MO MG CB NX hRR hyz
                    go_wp2_with (go_at_call 26; (first
            | (with_reducible refine (J0.out _).mono ?_)
            | (with_reducible refine (J1.out _).mono ?_)
            | (with_reducible refine (J2.out _).mono ?_)); rintro e w' ⟨rfl, rfl⟩)
                    go_quiet (fail)
                    go_wp2
                    go_roundw
                    all_goals first
                      | exact ⟨k + 1, by omega, by push_cast; rfl, HNX, below_drewN HBA.out _, HDa.out.drew18 _⟩
                      | (simp only [intOf]; omega)
              · have hRf : mapR18 data (y0, y1, y2) = false := by simpa using hRR
                obtain rfl : R = 2 := CB.out 2 (MB.out hRf) (by decide)
                have hex := hRd.out
                rw [hRf] at hex
                clear MO MG MF MB CB NX hRR hRf hRd t0
                generalize in18 y0 0 281474976710655 = r0 at *
                generalize in18 y1 0 (data - 1) = r1 at *
                generalize in18 y2 0 16777215 = r2 at *
                cases r0 <;> cases r1 <;> cases r2
                rotate_right 1
                · exact absurd hex (by decide)
                all_goals
                  clear hex
                  go_wp2_with (go_at_call 26; (first
          | (with_reducible refine (J0.out _).mono ?_)
          | (with_reducible refine (J1.out _).mono ?_)
          | (with_reducible refine (J2.out _).mono ?_)); rintro e w' ⟨rfl, rfl⟩)
                  go_ret
                  exact ⟨rfl, HB.out.trans (HBA.out.mono (Nat.le_succ _))⟩
            · obtain rfl : k = m := by omega
              have HALL := Lib.hid (CC.out.all (by intro j hj; exact hJm.out j (by omega)))
              go_wp2
              go_roundw
              all_goals first
                | exact ⟨i + 1, by omega, by push_cast; rfl, HALL.out, hbel⟩
                | (simp only [intOf]; omega)
        · obtain ⟨i', hii⟩ : ∃ i', i = i' + 1 := ⟨i - 1, by omega⟩
          obtain ⟨b2, off2, A2, m2, c2', e2, hb2, p0, _⟩ := HD.out.at18 (k := i') (by omega)
          cases e2
          have q0 := (hbel.out.cell (p := ⟨b, off + i' * 5, none⟩) hb').trans p0
          have q0a := (HBA.out.cell (p := ⟨b, off + i' * 5, none⟩) hb').trans p0
          have ek : i - 1 = i' := by omega
          rw [ek] at SO SG
          have hw : IntKind.i64.wrap ((i : Int) - 1) = (i' : Int) := (IntWalk.i64_in _ (by omega)).trans (by omega)
          have hw2 : IntKind.i64.wrap (i' : Int) = (i' : Int) := IntWalk.i64_in _ (by omega)
          have hkp : 0 < i := by omega
          have hkp2 : i' < n := by omega
          have HKK := Lib.hid hii
          have hkd : decide ((0 : Int) < (i : Int)) = true := by simpa using hkp
          have hkd2 : decide (0 < i) = true := by simpa using hkp
          clear hii ek hi0 p0 SF
          by_cases hxy : (ds.getD i zero18).id ≤ (ds.getD i' zero18).id
          · obtain rfl : R = 8 := BDi.out 8 (SO.out hRR hkp hxy) (by decide)
            have hd : decide ((ds.getD i zero18).id ≤ (ds.getD i' zero18).id) = true := by simpa using hxy
            clear SO SG BDi CIi hRR hxy
            generalize (ds.getD i' zero18).id = z0 at *
            generalize (ds.getD i zero18) = d at *
            go_wp2_with (go_at_call 26; (first
              | (with_reducible refine (I0.out _).mono ?_)
              | (with_reducible refine (I1.out _).mono ?_)
              | (with_reducible refine (I2.out _).mono ?_)
              | (with_reducible refine (I3.out _).mono ?_)); rintro e w' ⟨rfl, rfl⟩)
            go_quiet (fail)
            go_wp2
            go_ret
            exact ⟨rfl, HB.out.trans ((below_drewN HBA.out _).mono (Nat.le_succ _))⟩
          · have CC := Lib.hid (CIi.out (SG.out hRR hkp hxy))
            have hd : decide ((ds.getD i zero18).id ≤ (ds.getD i' zero18).id) = false := by simpa using hxy
            clear SO SG BDi CIi hRR hxy
            generalize (ds.getD i' zero18).id = z0 at *
            generalize (ds.getD i zero18) = d at *
            go_wp2_with (go_at_call 26; (first
              | (with_reducible refine (I0.out _).mono ?_)
              | (with_reducible refine (I1.out _).mono ?_)
              | (with_reducible refine (I2.out _).mono ?_)
              | (with_reducible refine (I3.out _).mono ?_)); rintro e w' ⟨rfl, rfl⟩)
            go_quiet (fail)
            go_wp2
            generalize wr.heap.size = D at *
            go_loopw [5] (fun v wr => ∃ (k : Nat), k ≤ m ∧ v = .int .i64 k ∧ Hid (∀ j, j < k → mapAt18 data none d.maps j = 0) ∧ Hid (Below (w.heap.size + 1) W0 wr) ∧ Hid (DevC wr D (.int .i64 d.id) (.int .i64 d.tx) (.int .i64 d.made) (.int .i64 d.snap) (.slice A' m c'))) (fun v _ => m - (intOf v).toNat)
            case atStart => exact ⟨0, by omega, rfl, fun j hj => by omega, below_drewN HBA.out _, HDC.out.drew18 _⟩
            case round =>
              clear HBA HDC g0 g1 g2 g3 g4 k3 k4 ka3 ka4 hbel I0 I1 I2 I3
              obtain ⟨k, hk, rfl, hJm, hbel, hDC⟩ := hrel
              obtain ⟨⟨e0, e1, e2, e3, e4⟩, _⟩ := hDC.out.cs
              have hsD := block_lt hDC.out
              have hs1 : w.heap.size + 1 ≤ wr.heap.size := by have := hbel.out.size; omega
              by_cases hkm : k < m
              · obtain ⟨b3, off3, y0, y1, y2, rfl, hb3, hx, hkl, t0, t1, t2⟩ := trs_at18 HT.out hkm
                have hb3' : b3 < w.heap.size + 1 := by omega
                have u0 := (hbel.out.cell (p := ⟨b3, off3 + k * 3, none⟩) hb3').trans t0
                have u1 := (hbel.out.cell (p := ⟨b3, off3 + k * 3 + 1, none⟩) hb3').trans t1
                have u2 := (hbel.out.cell (p := ⟨b3, off3 + k * 3 + 2, none⟩) hb3').trans t2
                have hba := hbel.out.alloc hs1 (.cells #[.int .i64 y0, .int .i64 y1, .int .i64 y2] 43)
                have HBA := Lib.hid hba
                have ka3 := (hba.cell (p := ⟨w.heap.size, 3, none⟩) (Nat.lt_succ_self _)).trans c3
                have hDa : DevC (wr.alloc (.cells #[.int .i64 y0, .int .i64 y1, .int .i64 y2] 43)) D (.int .i64 d.id) (.int .i64 d.tx) (.int .i64 d.made) (.int .i64 d.snap) (.slice (some ⟨b3, off3, none⟩) m c') := (Below.heap_alloc wr _ D hsD).trans hDC.out
                obtain ⟨⟨_, _, _, _, ea4⟩, _⟩ := hDa.cs
                have HDa := Lib.hid hDa
                have MB := Lib.hid (mapAt18_bad (data := data) (l := d.maps) (k := k))
                have MO := Lib.hid (mapAt18_ord (data := data) (l := d.maps) (k := k))
                have MG := Lib.hid (mapAt18_good (data := data) (l := d.maps) (k := k))
                have MF : Hid (k = 0 → mapR18 data (d.maps.getD k (0, 0, 0)) = true → mapAt18 data none d.maps k = 0) := fun e h => by subst e; exact mapAt18_first h
                rw [hx] at MB MO MG MF
                have hRd : Hid (mapR18 data (y0, y1, y2) = (in18 y0 0 281474976710655 && in18 y1 0 (data - 1) && in18 y2 0 16777215)) := Lib.hid rfl
                have J0 := Lib.hid (fun W => refIn_any18 y0 0 281474976710655 W)
                have J1 := Lib.hid (fun W => refIn_any18 y1 0 (data - 1) W)
                have J2 := Lib.hid (fun W => refIn_any18 y2 0 16777215 W)
                have NX : Hid (mapAt18 data none d.maps k = 0 → ∀ j, j < k + 1 → mapAt18 data none d.maps j = 0) := fun h j hj => by
                  by_cases e : j = k
                  · rw [e]; exact h
                  · exact hJm.out j (by omega)
                have CB := Lib.hid (fun e => CC.out.bad k e hkl hJm.out)
                clear t1 t2 hx hba hDa
                by_cases hRR : mapR18 data (y0, y1, y2) = true
                · have hall : in18 y0 0 281474976710655 = true ∧ in18 y1 0 (data - 1) = true ∧ in18 y2 0 16777215 = true := by
                    have := hRd.out
                    rw [hRR] at this
                    have := this.symm
                    simp only [Bool.and_eq_true] at this
                    exact ⟨this.1.1, this.1.2, this.2⟩
                  rw [hall.1] at J0
                  rw [hall.2.1] at J1
                  rw [hall.2.2] at J2
                  clear hall hRd MB
                  by_cases hk0 : k = 0
                  · have HNX := Lib.hid (NX.out (MF.out hk0 hRR))
                    have hjd2 : decide (0 < k) = false := by simpa using hk0
                    have hjz : ¬ (0 : Int) < (k : Int) := by omega
                    have hjd : decide ((0 : Int) < (k : Int)) = false := by simpa using hjz
                    clear MO MG MF CB NX hRR hk0 t0
                    go_wp2_with (go_at_call 26; (first
          | (with_reducible refine (J0.out _).mono ?_)
          | (with_reducible refine (J1.out _).mono ?_)
          | (with_reducible refine (J2.out _).mono ?_)); rintro e w' ⟨rfl, rfl⟩)
                    go_quiet (fail)
                    go_wp2
                    go_roundw
                    all_goals first
                      | exact ⟨k + 1, by omega, by push_cast; rfl, HNX, below_drewN HBA.out _, HDa.out.drew18 _⟩
                      | (simp only [intOf]; omega)
                  · obtain ⟨k', hkk⟩ : ∃ k', k = k' + 1 := ⟨k - 1, by omega⟩
                    obtain ⟨b4, off4, z1, z2, z3, e5, hb4, hx2, hkl2, s0, _, _⟩ := trs_at18 HT.out (k := k') (by omega)
                    cases e5
                    have q1 := (HBA.out.cell (p := ⟨b3, off3 + k' * 3, none⟩) hb3').trans s0
                    have ek : k - 1 = k' := by omega
                    rw [ek, hx2] at MO MG
                    have hw3 : IntKind.i64.wrap ((k : Int) - 1) = (k' : Int) := (IntWalk.i64_in _ (by omega)).trans (by omega)
                    have hw4 : IntKind.i64.wrap (k' : Int) = (k' : Int) := IntWalk.i64_in _ (by omega)
                    have hjp : 0 < k := by omega
                    have hjp2 : k' < m := by omega
                    have hjd : decide ((0 : Int) < (k : Int)) = true := by simpa using hjp
                    have hjd2 : decide (0 < k) = true := by simpa using hjp
                    have HKK2 := Lib.hid hkk
                    clear hkk ek hk0 MF t0 s0 hx2 hkl2
                    by_cases hyz : y0 ≤ z1
                    · obtain rfl : R = 8 := CB.out 8 (MO.out hRR hjp hyz) (by decide)
                      have hd3 : decide (y0 ≤ z1) = true := by simpa using hyz
                      clear MO MG CB NX hRR hyz
                      go_wp2_with (go_at_call 26; (first
            | (with_reducible refine (J0.out _).mono ?_)
            | (with_reducible refine (J1.out _).mono ?_)
            | (with_reducible refine (J2.out _).mono ?_)); rintro e w' ⟨rfl, rfl⟩)
                      go_quiet (fail)
                      go_wp2
                      go_ret
                      exact ⟨rfl, HB.out.trans ((below_drewN HBA.out _).mono (Nat.le_succ _))⟩
                    · have HNX := Lib.hid (NX.out (MG.out hRR hjp (by simpa using hyz)))
                      have hd3 : decide (y0 ≤ z1) = false := by simpa using hyz
                      clear MO MG CB NX hRR hyz
                      go_wp2_with (go_at_call 26; (first
            | (with_reducible refine (J0.out _).mono ?_)
            | (with_reducible refine (J1.out _).mono ?_)
            | (with_reducible refine (J2.out _).mono ?_)); rintro e w' ⟨rfl, rfl⟩)
                      go_quiet (fail)
                      go_wp2
                      go_roundw
                      all_goals first
                        | exact ⟨k + 1, by omega, by push_cast; rfl, HNX, below_drewN HBA.out _, HDa.out.drew18 _⟩
                        | (simp only [intOf]; omega)
                · have hRf : mapR18 data (y0, y1, y2) = false := by simpa using hRR
                  obtain rfl : R = 2 := CB.out 2 (MB.out hRf) (by decide)
                  have hex := hRd.out
                  rw [hRf] at hex
                  clear MO MG MF MB CB NX hRR hRf hRd t0
                  generalize in18 y0 0 281474976710655 = r0 at *
                  generalize in18 y1 0 (data - 1) = r1 at *
                  generalize in18 y2 0 16777215 = r2 at *
                  cases r0 <;> cases r1 <;> cases r2
                  rotate_right 1
                  · exact absurd hex (by decide)
                  all_goals
                    clear hex
                    go_wp2_with (go_at_call 26; (first
          | (with_reducible refine (J0.out _).mono ?_)
          | (with_reducible refine (J1.out _).mono ?_)
          | (with_reducible refine (J2.out _).mono ?_)); rintro e w' ⟨rfl, rfl⟩)
                    go_ret
                    exact ⟨rfl, HB.out.trans (HBA.out.mono (Nat.le_succ _))⟩
              · obtain rfl : k = m := by omega
                have HALL := Lib.hid (CC.out.all (by intro j hj; exact hJm.out j (by omega)))
                go_wp2
                go_roundw
                all_goals first
                  | exact ⟨i + 1, by omega, by push_cast; rfl, HALL.out, hbel⟩
                  | (simp only [intOf]; omega)
      · have hRf : devR18 (ds.getD i zero18) = false := by simpa using hRR
        obtain rfl : R = 2 := BDi.out 2 (SB.out hRf) (by decide)
        have hex := hRd.out
        rw [hRf] at hex
        clear SO SG SF SB BDi CIi hRR hRf hRd
        generalize in18 (ds.getD i zero18).id 0 16777215 = r0 at *
        generalize in18 (ds.getD i zero18).tx 0 2147483647 = r1 at *
        generalize in18 (ds.getD i zero18).made 0 16777215 = r2 at *
        generalize in18 (ds.getD i zero18).snap 0 16777215 = r3 at *
        generalize (ds.getD i zero18) = d at *
        cases r0 <;> cases r1 <;> cases r2 <;> cases r3
        rotate_right 1
        · exact absurd hex (by decide)
        all_goals
          clear hex
          go_wp2_with (go_at_call 26; (first
            | (with_reducible refine (I0.out _).mono ?_)
            | (with_reducible refine (I1.out _).mono ?_)
            | (with_reducible refine (I2.out _).mono ?_)
            | (with_reducible refine (I3.out _).mono ?_)); rintro e w' ⟨rfl, rfl⟩)
          go_ret
          exact ⟨rfl, HB.out.trans (HBA.out.mono (Nat.le_succ _))⟩
    · obtain rfl : i = n := by omega
      obtain rfl : R = 0 := EN.out hJ.out
      go_wp2
      go_ret
      exact ⟨rfl, HB.out.trans (hbel.out.mono (Nat.le_succ _))⟩

/-- Check of any pool -/
theorem refCheck_any18 (p : Pol18) (A : Option Addr) (n c : Nat) (w : World) (h : Dvs w A n c p.devs) (hc : cnt18 p.devs ≤ 1000000) :
    Calls Try.prog 9 #[polV18 p A n c] w fun e w' => e = .returned (.int .i64 (chkE18 p)) ∧ Below w.heap.size w w' := by
  cases hh : headR18 p with
  | false => exact refCheck_head18 p A n c w hh
  | true =>
    by_cases h2 : 4096 < p.devs.length ∨ 16384 < cnt18 p.devs
    · exact refCheck_many18 p A n c w h hc hh h2
    · exact refCheck_good18 p A n c w h hc hh h2

set_option maxRecDepth 100000 in
set_option maxHeartbeats 1600000 in
theorem refRefs_bad18 (p : Pol18) (A : Option Addr) (n c : Nat) (w : World) (h : Dvs w A n c p.devs) (hc : cnt18 p.devs ≤ 1000000) (hv : chkE18 p ≠ 0) :
    Calls Try.prog 20 #[polV18 p A n c] w fun e w' => e = .returned (.slice none 0 0) ∧ Below w.heap.size w w' := by
  obtain ⟨W0, hW0⟩ : ∃ W0, w.alloc (.cells #[.int .i64 p.tx, .int .i64 p.time, .int .i64 p.unit, .int .i64 p.data, .slice A n c] 24) = W0 := ⟨_, rfl⟩
  have hb0 : Below w.heap.size w W0 := by rw [← hW0]; exact (Below.refl _ _).alloc (Nat.le_refl _) _
  have hR0 : PolC W0 w.heap.size (.int .i64 p.tx) (.int .i64 p.time) (.int .i64 p.unit) (.int .i64 p.data) (.slice A n c) := by rw [← hW0]; exact heap_alloc_new w _
  obtain ⟨c0, c1, c2, c3, c4⟩ := hR0.cs
  have CK := Lib.hid (refCheck_any18 p A n c W0 (h.below hb0) hc)
  unfold polV18 at CK
  have HB := Lib.hid hb0
  have hyb : (chkE18 p != 0) = true := by simpa using hv
  clear h hb0 hR0 hv
  unfold polV18
  generalize chkE18 p = y at *
  generalize p.tx = v0 at *
  generalize p.time = v1 at *
  generalize p.unit = v2 at *
  generalize p.data = v3 at *
  go_enter Try.func20, Try.ntmps20
  go_wp2_with (go_at_call 9; (with_reducible refine (CK.out).mono ?_); rintro e w1 ⟨rfl, hb1⟩; have HB1 := Lib.hid (HB.out.trans (hb1.mono HB.out.size)); clear hb1)
  go_ret
  exact ⟨rfl, HB1.out⟩
end Go.Proofs.Ytlmpaelcnnnkfaa

/-
  Layer 18: Latest.
-/
namespace Go.Proofs.Ytlmpaelcnnnkfaa
open Go.RowKit Go.Shelf
set_option linter.unusedVariables false
set_option linter.unusedSimpArgs false
attribute [local go_sem] Oper.semAt_some

/-- the times of mappings -/
abbrev tms18 (l : List (Nat × Int × Int × Int)) : List Int := l.map fun x => x.2.2.2
theorem tms18_flat (ds : List Dev18) : tms18 (flat18 ds) = times18 ds := flat18_map (fun q => q.2.2) ds

set_option maxRecDepth 100000 in
set_option maxHeartbeats 2000000 in
theorem Latest_any18 (p : Pol18) (A : Option Addr) (n c : Nat) (w : World) (h : Dvs w A n c p.devs) :
    Calls Try.prog 14 #[polV18 p A n c] w fun e w' => e = .returned (.int .i64 (late18 (times18 p.devs))) ∧ Below w.heap.size w w' := by
  have HI := Lib.hid h
  clear h
  obtain ⟨R, hR⟩ : ∃ R, late18 (times18 p.devs) = R := ⟨_, rfl⟩
  rw [hR]
  rw [← tms18_flat] at hR
  have HR := Lib.hid hR
  clear hR
  unfold polV18
  generalize p.tx = v0 at *
  generalize p.time = v1 at *
  generalize p.unit = v2 at *
  generalize p.data = v3 at *
  generalize p.devs = ds at *
  have R0 : (w.alloc (.cells #[.int .i64 v0, .int .i64 v1, .int .i64 v2, .int .i64 v3, .slice A n c] 24)).heap[w.heap.size]? = some (Obj.cells #[.int .i64 v0, .int .i64 v1, .int .i64 v2, .int .i64 v3, .slice A n c] 24 (0, 0)) := heap_alloc_new w _
  have c4 := cell_of_row _ w.heap.size 4 _ _ _ R0
  clear R0
  refine (callsIn_wide (n := 2)).1 ?_
  refine callsIn_of_wp_marks Try.func14 rfl trivial ?_ rfl
  simp only [Try.ntmps14, List.size_toArray, List.length_cons, List.length_nil, Nat.reduceAdd, Nat.reduceSub, Array.replicate_succ, Array.replicate_zero, List.push_toArray, List.append_toArray, List.nil_append, List.cons_append]
  gi_wp2_with (refine ⟨trivial, ?_⟩; gi_at_call 29; refine (callsIn_wide.2 (all_any18 _ _ _ _)).mono ?_; rintro e w' ⟨rfl, rfl⟩)
  obtain ⟨W0, hW0⟩ : ∃ W0, (((w.alloc (.cells #[.int .i64 v0, .int .i64 v1, .int .i64 v2, .int .i64 v3, .slice A n c] 24)).alloc (.cells #[.int .i64 0] 3)).alloc (.cells #[.slice A n c] 22)) = W0 := ⟨_, rfl⟩
  have hsz : W0.heap.size = w.heap.size + 3 := by rw [← hW0]; simp
  have hB0 : Below w.heap.size w W0 := by rw [← hW0]; exact (((Below.refl _ w).alloc (Nat.le_refl _) _).alloc (by simp) _).alloc (by simp; omega) _
  have hM0 : Lat18 w W0 0 := by
    refine ⟨?_, hB0, by omega⟩
    have := Boxed.new (w.alloc (.cells #[.int .i64 v0, .int .i64 v1, .int .i64 v2, .int .i64 v3, .slice A n c] 24)) 3 (.int .i64 0)
    rw [World.size_alloc] at this
    rw [← hW0]; exact this.alloc _
  have bC : Boxed W0 (w.heap.size + 2) 22 (.slice A n c) := by
    have := Boxed.new ((w.alloc (.cells #[.int .i64 v0, .int .i64 v1, .int .i64 v2, .int .i64 v3, .slice A n c] 24)).alloc (.cells #[.int .i64 0] 3)) 22 (.slice A n c)
    rw [World.size_alloc, World.size_alloc] at this
    rw [← hW0]; exact this
  simp only [hW0]
  simp only [show w.heap.size + 1 + 1 = w.heap.size + 2 from rfl]
  clear hW0 c4
  have HST := Lib.hid (all_stops (w.heap.size + 2) w.heap.size A n c ds w W0 HI.out (Nat.le_refl _) hB0 (by omega) bC)
  refine wpIn_rangeFunc_ownH rfl (Nat.le_succ 1) (gf := 37) (lb := #[.pointer (some ⟨w.heap.size + 2, 0, none⟩)]) rfl trivial (enters_of Try.func37 (by kernel_rfl) rfl)
    HST.out KpR12.trans (KpR12.put (by omega) (by omega)) (Below.refl _ _) (fun _ => rfl)
    (fun pre W => Lat18 w W (late18 (tms18 pre)))
    (fun _ _ _ => False)
    (Lat18.own w (fun pre => late18 (tms18 pre)) _ (by omega))
    (fun _ _ _ _ _ hs _ _ => hs)
    hM0
    (fun x a' W => ∃ Bx, MapC W Bx x.2.1 x.2.2.1 x.2.2.2 ∧ a' = { tmps := #[.agg #[.int .i64 v0, .int .i64 v1, .int .i64 v2, .int .i64 v3, .slice A n c], .pointer (some ⟨w.heap.size, 0, none⟩), .int .i64 0, .pointer (some ⟨w.heap.size + 1, 0, none⟩), undef, .pointer (some ⟨Bx, 0, none⟩), .pointer (some ⟨w.heap.size, 4, none⟩), .slice A n c, .func (.func 37) #[] #[.pointer (some ⟨w.heap.size + 2, 0, none⟩)], .int .i64 (x.1 : Int), .agg #[.int .i64 x.2.1, .int .i64 x.2.2.1, .int .i64 x.2.2.2], undef, undef, undef, undef, undef], defers := [] })
    (fun x a' s X Y row hs hg hr => by
      obtain ⟨Bx, e1, e2⟩ := hs
      exact ⟨Bx, mapC_own Bx _ _ _ () X Y row e1 hg (fun r e => (hr r e).2), e2⟩) ?assign ?body ?done ?stop
  case assign =>
    rintro l pre x W K hm hK
    have hal := (Below.refl W.heap.size W).alloc (Nat.le_refl _) (.cells #[.int .i64 x.2.1, .int .i64 x.2.2.1, .int .i64 x.2.2.2] 43)
    have hs4 := hm.sz
    have hfin := hK { tmps := #[.agg #[.int .i64 v0, .int .i64 v1, .int .i64 v2, .int .i64 v3, .slice A n c], .pointer (some ⟨w.heap.size, 0, none⟩), .int .i64 0, .pointer (some ⟨w.heap.size + 1, 0, none⟩), undef, .pointer (some ⟨W.heap.size, 0, none⟩), .pointer (some ⟨w.heap.size, 4, none⟩), .slice A n c, .func (.func 37) #[] #[.pointer (some ⟨w.heap.size + 2, 0, none⟩)], .int .i64 (x.1 : Int), .agg #[.int .i64 x.2.1, .int .i64 x.2.2.1, .int .i64 x.2.2.2], undef, undef, undef, undef, undef], defers := [] }
      (W.alloc (.cells #[.int .i64 x.2.1, .int .i64 x.2.2.1, .int .i64 x.2.2.2] 43)) ((KeepsOthers.alloc _ _).from _) ⟨hal.mono (by omega), hal.block _ (by omega)⟩
      (hm.later hal) ⟨W.heap.size, MapC.new W _ _ _, rfl⟩
    have HFIN := Lib.hid hfin
    unfold encM18
    obtain ⟨k, v, b, t⟩ := x
    clear hK hfin hal
    gi_wp2
    exact HFIN.out
  case body =>
    rintro l pre x a' W hl hr hm ⟨Bx, hbx, rfl⟩ hlt
    obtain ⟨hx0, hx1, hx2⟩ := hbx.cs
    have b1 := hm.bl.cell
    have fl := hm.bl.frozen
    have SE : late18 (tms18 (pre ++ [x])) = if late18 (tms18 pre) < x.2.2.2 then x.2.2.2 else late18 (tms18 pre) := by
      rw [tms18, List.map_append]
      exact late18_snoc _ _
    obtain ⟨k, v, b, t⟩ := x
    have HG : ∀ q, (if late18 (tms18 pre) < t then t else late18 (tms18 pre)) = q → Hid (KeepsFrom (w.heap.size + 3) W (W.setCell ⟨w.heap.size + 1, 0, none⟩ (.int .i64 q)) ∧ KpR12 w.heap.size (w.heap.size + 2) W (W.setCell ⟨w.heap.size + 1, 0, none⟩ (.int .i64 q)) ∧ Lat18 w (W.setCell ⟨w.heap.size + 1, 0, none⟩ (.int .i64 q)) (late18 (tms18 (pre ++ [(k, v, b, t)])))) := fun q hq => by
      rw [SE, hq]
      exact ⟨(KeepsOthers.setCell _ _ _).from _, ⟨(Below.refl _ _).setCell (p := ⟨w.heap.size + 1, 0, none⟩) (by simp) _, heap_setCell_other _ _ (w.heap.size + 2) _ (by show ¬ w.heap.size + 2 = w.heap.size + 1; omega)⟩, hm.set q⟩
    have HG := Lib.hid HG
    clear SE hm hbx
    generalize hla : late18 (tms18 pre) = la at *
    clear hla
    by_cases hlt2 : la < t
    · have HX := Lib.hid (HG.out t (if_pos hlt2))
      clear HG
      gi_wp2
      exact HX.out.out
    · have HX := Lib.hid (HG.out la (if_neg hlt2))
      clear HG
      gi_wp2
      exact HX.out.out
  case done =>
    rintro D ys W hD rfl hm hK
    have b1 := hm.bl.cell
    have HM := Lib.hid (hm.put (.deferred none) (by omega) hK rfl)
    have HR2 := Lib.hid HR.out
    clear hm
    generalize late18 (tms18 (flat18 ds)) = la at *
    gi_wp2
    refine ⟨by simp, .inl ⟨_, _, rfl, run_takeDeferred hK, ?_⟩⟩
    exact ⟨_, results_tmp rfl _ _ _, by rw [← HR2.out]; rfl, HM.out.bel⟩
  case stop =>
    rintro D c pre W _ _ h _
    exact h.elim
end Go.Proofs.Ytlmpaelcnnnkfaa

/-
  Layer 18: slices.Equal of mappings; alike.
-/
namespace Go.Proofs.Ytlmpaelcnnnkfaa
open Go.RowKit
set_option linter.unusedVariables false
set_option linter.unusedSimpArgs false

set_option maxRecDepth 100000 in
set_option maxHeartbeats 1600000 in
theorem EqualMaps_any18 (A A2 : Option Addr) (n c n2 c2 : Nat) (l l2 : List (Int × Int × Int)) (w : World) (h : Trs w A n c l) (h2 : Trs w A2 n2 c2 l2) (r : Bool) (hr : decide (l = l2) = r) :
    Calls Try.prog 36 #[.slice A n c, .slice A2 n2 c2] w fun e w' => e = .returned (.bool r) ∧ Below w.heap.size w w' := by
  have hle : n ≤ 9223372036854775807 := Nat.le_trans h.cap h.most
  have hle2 : n2 ≤ 9223372036854775807 := Nat.le_trans h2.cap h2.most
  have hl := h.len
  have hl2 := h2.len
  by_cases hn : n = n2
  · subst hn
    have HR := Lib.hid hr
    have HC := Lib.hid (fun (k : Nat) (hk : k < n) => trs_at18 h hk)
    have HC2 := Lib.hid (fun (k : Nat) (hk : k < n) => trs_at18 h2 hk)
    clear h h2 hr
    go_enter Try.func36, Try.ntmps36
    go_wp2
    go_loopw [13] (fun i wr => ∃ k : Nat, k ≤ n ∧ i = .int .i64 k ∧ Hid (l.take k = l2.take k) ∧ Hid (Below w.heap.size w wr)) (fun i _ => n - (intOf i).toNat)
    case atStart => exact ⟨0, by omega, rfl, rfl, Below.refl _ _⟩
    case round =>
      obtain ⟨k, hk, rfl, hT, hbel⟩ := hrel
      by_cases hlt : k < n
      · obtain ⟨b, off, x0, x1, x2, rfl, hb, hx, hkl, d0, d1, d2⟩ := HC.out k hlt
        obtain ⟨b2, off2, y0, y1, y2, rfl, hb2, hy, hkl2, e0, e1, e2⟩ := HC2.out k hlt
        rw [getD18 hkl] at hx
        rw [getD18 hkl2] at hy
        have c0 := (hbel.out.cell (p := ⟨b, off + k * 3, none⟩) hb).trans d0
        have c1 := (hbel.out.cell (p := ⟨b, off + k * 3 + 1, none⟩) hb).trans d1
        have c2 := (hbel.out.cell (p := ⟨b, off + k * 3 + 2, none⟩) hb).trans d2
        have g0 := (hbel.out.cell (p := ⟨b2, off2 + k * 3, none⟩) hb2).trans e0
        have g1 := (hbel.out.cell (p := ⟨b2, off2 + k * 3 + 1, none⟩) hb2).trans e1
        have g2 := (hbel.out.cell (p := ⟨b2, off2 + k * 3 + 2, none⟩) hb2).trans e2
        clear d0 d1 d2 e0 e1 e2
        by_cases hxy : x0 = y0 ∧ x1 = y1 ∧ x2 = y2
        · obtain ⟨rfl, rfl, rfl⟩ := hxy
          have hT1 : Hid (l.take (k + 1) = l2.take (k + 1)) := by
            rw [List.take_succ_eq_append_getElem hkl, List.take_succ_eq_append_getElem hkl2, hT.out, hx, hy]; rfl
          clear hx hy
          go_wp2
          go_region
          all_goals go_wp2
          all_goals go_roundw
          all_goals first
            | exact ⟨k + 1, by omega, by push_cast; rfl, hT1, hbel.out.drew⟩
            | (simp only [intOf]; omega)
        · obtain rfl : false = r := by
            rw [← HR.out]
            symm
            apply decide_eq_false
            intro h
            subst h
            rw [hx] at hy
            exact hxy (by simpa using hy)
          clear hx hy
          have hc3 : ¬ x0 = y0 ∨ (x0 = y0 ∧ ¬ x1 = y1) ∨ (x0 = y0 ∧ x1 = y1 ∧ ¬ x2 = y2) := by
            by_cases a : x0 = y0
            · by_cases b : x1 = y1
              · by_cases c : x2 = y2
                · exact absurd ⟨a, b, c⟩ hxy
                · exact .inr (.inr ⟨a, b, c⟩)
              · exact .inr (.inl ⟨a, b⟩)
            · exact .inl a
          clear hxy
          rcases hc3 with hne | ⟨rfl, hne⟩ | ⟨rfl, rfl, hne⟩
          all_goals
            go_wp2
            go_region
            all_goals go_wp2
            all_goals go_ret
            all_goals exact ⟨rfl, hbel.out.drew⟩
      · obtain rfl : k = n := by omega
        obtain rfl : true = r := by
          rw [← HR.out]
          symm
          apply decide_eq_true
          have := hT.out
          rwa [List.take_of_length_le (by omega), List.take_of_length_le (by omega)] at this
        go_wp2
        go_ret
        exact ⟨rfl, hbel.out⟩
  · obtain rfl : false = r := by
      rw [← hr]
      symm
      apply decide_eq_false
      intro h
      subst h
      omega
    have hnI : ¬ (n : Int) = (n2 : Int) := by omega
    clear h h2 hr
    go_enter Try.func36, Try.ntmps36
    go_wp2
    go_ret
    exact ⟨rfl, Below.refl _ _⟩

set_option maxRecDepth 100000 in
set_option maxHeartbeats 3200000 in
theorem alike_any18 (a b : Dev18) (A A2 : Option Addr) (n c n2 c2 : Nat) (w : World) (h : Trs w A n c a.maps) (h2 : Trs w A2 n2 c2 b.maps) (r : Bool) (hr : decide (SamD18 a b) = r) :
    Calls Try.prog 28 #[devV18 a A n c, devV18 b A2 n2 c2] w fun e w' => e = .returned (.bool r) ∧ Below w.heap.size w w' := by
  obtain ⟨W0, hW0⟩ : ∃ W0, w.alloc (.cells #[.int .i64 a.id, .int .i64 a.tx, .int .i64 a.made, .int .i64 a.snap, .slice A n c] 32) = W0 := ⟨_, rfl⟩
  obtain ⟨W1, hW1⟩ : ∃ W1, W0.alloc (.cells #[.int .i64 b.id, .int .i64 b.tx, .int .i64 b.made, .int .i64 b.snap, .slice A2 n2 c2] 32) = W1 := ⟨_, rfl⟩
  have hs0 : W0.heap.size = w.heap.size + 1 := by rw [← hW0]; exact World.size_alloc _ _
  have hb0 : Below w.heap.size w W0 := by rw [← hW0]; exact (Below.refl _ _).alloc (Nat.le_refl _) _
  have hb01 : Below W0.heap.size W0 W1 := by rw [← hW1]; exact (Below.refl _ _).alloc (Nat.le_refl _) _
  have hb1 : Below w.heap.size w W1 := hb0.trans (hb01.mono (by omega))
  have hR0 : DevC W0 w.heap.size (.int .i64 a.id) (.int .i64 a.tx) (.int .i64 a.made) (.int .i64 a.snap) (.slice A n c) := by rw [← hW0]; exact heap_alloc_new w _
  have hR1 : DevC W1 w.heap.size (.int .i64 a.id) (.int .i64 a.tx) (.int .i64 a.made) (.int .i64 a.snap) (.slice A n c) := (hb01.block _ (by omega)).trans hR0
  have hV1 : DevC W1 (w.heap.size + 1) (.int .i64 b.id) (.int .i64 b.tx) (.int .i64 b.made) (.int .i64 b.snap) (.slice A2 n2 c2) := by
    have := heap_alloc_new W0 (.cells #[.int .i64 b.id, .int .i64 b.tx, .int .i64 b.made, .int .i64 b.snap, .slice A2 n2 c2] 32)
    rw [hW1, hs0] at this
    exact this
  obtain ⟨⟨x0, x1, x2, x3, x4⟩, _⟩ := hR1.cs
  obtain ⟨⟨y0, y1, y2, y3, y4⟩, _⟩ := hV1.cs
  have HB := Lib.hid hb1
  have SM := Lib.hid (EqualMaps_any18 A A2 n c n2 c2 a.maps b.maps W1 (h.below hb1) (h2.below hb1) _ rfl)
  have hr' : (r = true) = (a.id = b.id ∧ a.tx = b.tx ∧ a.made = b.made ∧ a.snap = b.snap ∧ decide (a.maps = b.maps) = true) := by
    rw [← hr, decide_eq_true_eq, decide_eq_true_eq]
    rfl
  unfold devV18
  generalize decide (a.maps = b.maps) = rm at *
  clear h h2 hr hb0 hb01 hb1 hR0 hR1 hV1
  generalize a.id = u0 at *
  generalize a.tx = u1 at *
  generalize a.made = u2 at *
  generalize a.snap = u3 at *
  generalize b.id = z0 at *
  generalize b.tx = z1 at *
  generalize b.made = z2 at *
  generalize b.snap = z3 at *
  by_cases e0 : u0 = z0
  · by_cases e1 : u1 = z1
    · by_cases e2 : u2 = z2
      · by_cases e3 : u3 = z3
        · obtain rfl : r = rm := by cases r <;> cases rm <;> simp [e0, e1, e2, e3] at hr' <;> rfl
          subst e0 e1 e2 e3
          clear hr'
          go_enter Try.func28, Try.ntmps28
          go_wp2_with (go_at_call 36; (with_reducible refine (SM.out).mono ?_); rintro e w3 ⟨rfl, hb3⟩; have HB3 := Lib.hid (HB.out.trans (hb3.mono HB.out.size)); clear hb3)
          go_ret
          exact ⟨rfl, HB3.out⟩
        · obtain rfl : r = false := by cases r <;> simp [e3] at hr' <;> rfl
          subst e0 e1 e2
          clear hr'
          go_enter Try.func28, Try.ntmps28
          go_wp2
          go_ret
          exact ⟨rfl, HB.out⟩
      · obtain rfl : r = false := by cases r <;> simp [e2] at hr' <;> rfl
        subst e0 e1
        clear hr'
        go_enter Try.func28, Try.ntmps28
        go_wp2
        go_ret
        exact ⟨rfl, HB.out⟩
    · obtain rfl : r = false := by cases r <;> simp [e1] at hr' <;> rfl
      subst e0
      clear hr'
      go_enter Try.func28, Try.ntmps28
      go_wp2
      go_ret
      exact ⟨rfl, HB.out⟩
  · obtain rfl : r = false := by cases r <;> simp [e0] at hr' <;> rfl
    clear hr'
    go_enter Try.func28, Try.ntmps28
    go_wp2
    go_ret
    exact ⟨rfl, HB.out⟩
end Go.Proofs.Ytlmpaelcnnnkfaa

/-
  Layer 18: slices.EqualFunc of devices; Same.
-/
namespace Go.Proofs.Ytlmpaelcnnnkfaa
open Go.RowKit
set_option linter.unusedVariables false
set_option linter.unusedSimpArgs false

set_option maxRecDepth 100000 in
set_option maxHeartbeats 3200000 in
theorem EqualDevs_any18 (ds es : List Dev18) (A A2 : Option Addr) (n c n2 c2 : Nat) (w : World) (h : Dvs w A n c ds) (h2 : Dvs w A2 n2 c2 es) (r : Bool) (hr : r = true ↔ ds = es) :
    Calls Try.prog 27 #[.slice A n c, .slice A2 n2 c2, .func (.func 28) #[] #[]] w fun e w' => e = .returned (.bool r) ∧ Below w.heap.size w w' := by
  have hle : n ≤ 9223372036854775807 := Nat.le_trans h.cap h.most
  have hle2 : n2 ≤ 9223372036854775807 := Nat.le_trans h2.cap h2.most
  have hl := h.len
  have hl2 := h2.len
  have HD := Lib.hid h
  have HD2 := Lib.hid h2
  have HR := Lib.hid hr
  clear h h2 hr
  by_cases hn : n = n2
  · subst hn
    go_enter Try.func27, Try.ntmps27
    go_wp2
    go_loopw [17] (fun i wr => ∃ k : Nat, k ≤ n ∧ i = .int .i64 k ∧ Hid (ds.take k = es.take k) ∧ Hid (Below w.heap.size w wr)) (fun i _ => n - (intOf i).toNat)
    case atStart => exact ⟨0, by omega, rfl, rfl, Below.refl _ _⟩
    case round =>
      obtain ⟨k, hk, rfl, hT, hbel⟩ := hrel
      by_cases hlt : k < n
      · obtain ⟨b, off, A', m, c', rfl, hb, d0, d1, d2, d3, d4, hTm⟩ := HD.out.at18 hlt
        obtain ⟨b2, off2, A3, m3, c3, rfl, hb2, f0, f1, f2, f3, f4, hTm2⟩ := HD2.out.at18 hlt
        have g0 := (hbel.out.cell (p := ⟨b, off + k * 5, none⟩) hb).trans d0
        have g1 := (hbel.out.cell (p := ⟨b, off + k * 5 + 1, none⟩) hb).trans d1
        have g2 := (hbel.out.cell (p := ⟨b, off + k * 5 + 2, none⟩) hb).trans d2
        have g3 := (hbel.out.cell (p := ⟨b, off + k * 5 + 3, none⟩) hb).trans d3
        have g4 := (hbel.out.cell (p := ⟨b, off + k * 5 + 4, none⟩) hb).trans d4
        have hbw := hbel.out.alloc hbel.out.size (.cells #[.int .i64 (ds.getD k zero18).id, .int .i64 (ds.getD k zero18).tx, .int .i64 (ds.getD k zero18).made, .int .i64 (ds.getD k zero18).snap, .slice A' m c'] 32)
        have k0 := (hbw.cell (p := ⟨b2, off2 + k * 5, none⟩) hb2).trans f0
        have k1 := (hbw.cell (p := ⟨b2, off2 + k * 5 + 1, none⟩) hb2).trans f1
        have k2 := (hbw.cell (p := ⟨b2, off2 + k * 5 + 2, none⟩) hb2).trans f2
        have k3 := (hbw.cell (p := ⟨b2, off2 + k * 5 + 3, none⟩) hb2).trans f3
        have k4 := (hbw.cell (p := ⟨b2, off2 + k * 5 + 4, none⟩) hb2).trans f4
        have hbw2 := hbw.alloc hbw.size (.cells #[.int .i64 (es.getD k zero18).id, .int .i64 (es.getD k zero18).tx, .int .i64 (es.getD k zero18).made, .int .i64 (es.getD k zero18).snap, .slice A3 m3 c3] 32)
        obtain ⟨q, hq⟩ : ∃ q, decide (SamD18 (ds.getD k zero18) (es.getD k zero18)) = q := ⟨_, rfl⟩
        have SD := Lib.hid ((alike_any18 (ds.getD k zero18) (es.getD k zero18) A' A3 m c' m3 c3 _ (hTm.below hbw2) (hTm2.below hbw2) q hq).mono fun e w' ⟨h1, h3⟩ => (show e = Ending.returned (.bool q) ∧ Below w.heap.size w w' from ⟨h1, hbw2.trans (h3.mono hbw2.size)⟩))
        unfold devV18 at SD
        have hkl : k < ds.length := by omega
        have hkl2 : k < es.length := by omega
        have hsam : SamD18 (ds.getD k zero18) (es.getD k zero18) ↔ ds[k] = es[k] := by
          rw [getD18 hkl, getD18 hkl2]
          exact ⟨fun h => h.eq, fun h => by rw [h]; exact ⟨rfl, rfl, rfl, rfl, rfl⟩⟩
        have YES : Hid (q = true → ds.take (k + 1) = es.take (k + 1)) := fun e => by
          rw [List.take_succ_eq_append_getElem hkl, List.take_succ_eq_append_getElem hkl2, hT.out, hsam.1 (of_decide_eq_true (hq.trans e))]
        have NO : Hid (q = false → false = r) := fun e => by
          cases r
          · rfl
          · exfalso
            have h3 := HR.out.1 rfl
            subst h3
            exact of_decide_eq_false (hq.trans e) (hsam.2 rfl)
        have HBW := Lib.hid hbw2
        clear hbw hbw2 d0 d1 d2 d3 d4 f0 f1 f2 f3 f4 hTm hTm2 hq hsam hkl hkl2
        generalize (ds.getD k zero18).id = x0 at *
        generalize (ds.getD k zero18).tx = x1 at *
        generalize (ds.getD k zero18).made = x2 at *
        generalize (ds.getD k zero18).snap = x3 at *
        generalize (es.getD k zero18).id = y0 at *
        generalize (es.getD k zero18).tx = y1 at *
        generalize (es.getD k zero18).made = y2 at *
        generalize (es.getD k zero18).snap = y3 at *
        cases q with
        | true =>
          have hT1 := Lib.hid (YES.out rfl)
          clear YES NO
          go_wp2_with (go_at_call 28; (with_reducible refine (SD.out).mono ?_); rintro e w6 ⟨rfl, hb6⟩; have HB6 := Lib.hid hb6; clear hb6)
          go_roundw
          all_goals first
            | exact ⟨k + 1, by omega, by push_cast; rfl, hT1, HB6⟩
            | (simp only [intOf]; omega)
        | false =>
          obtain rfl := NO.out rfl
          clear YES NO
          go_wp2_with (go_at_call 28; (with_reducible refine (SD.out).mono ?_); rintro e w6 ⟨rfl, hb6⟩; have HB6 := Lib.hid hb6; clear hb6)
          go_ret
          exact ⟨rfl, HB6.out⟩
      · obtain rfl : k = n := by omega
        obtain rfl : true = r := (HR.out.2 (by
          have := hT.out
          rwa [List.take_of_length_le (by omega), List.take_of_length_le (by omega)] at this)).symm
        go_wp2
        go_ret
        exact ⟨rfl, hbel.out⟩
  · obtain rfl : false = r := by
      cases r
      · rfl
      · exfalso
        have h3 := HR.out.1 rfl
        subst h3
        omega
    have hnI : ¬ (n : Int) = (n2 : Int) := by omega
    go_enter Try.func27, Try.ntmps27
    go_wp2
    go_ret
    exact ⟨rfl, Below.refl _ _⟩

set_option maxRecDepth 100000 in
set_option maxHeartbeats 3200000 in
theorem Same_any18 (p q : Pol18) (A A2 : Option Addr) (n c n2 c2 : Nat) (w : World) (h : Dvs w A n c p.devs) (h2 : Dvs w A2 n2 c2 q.devs) (r : Bool) (hr : r = true ↔ SamP18 p q) :
    Calls Try.prog 10 #[polV18 p A n c, polV18 q A2 n2 c2] w fun e w' => e = .returned (.bool r) ∧ Below w.heap.size w w' := by
  obtain ⟨W0, hW0⟩ : ∃ W0, w.alloc (.cells #[.int .i64 p.tx, .int .i64 p.time, .int .i64 p.unit, .int .i64 p.data, .slice A n c] 24) = W0 := ⟨_, rfl⟩
  obtain ⟨W1, hW1⟩ : ∃ W1, W0.alloc (.cells #[.int .i64 q.tx, .int .i64 q.time, .int .i64 q.unit, .int .i64 q.data, .slice A2 n2 c2] 24) = W1 := ⟨_, rfl⟩
  have hs0 : W0.heap.size = w.heap.size + 1 := by rw [← hW0]; exact World.size_alloc _ _
  have hs1 : W1.heap.size = w.heap.size + 2 := by rw [← hW1, World.size_alloc, hs0]
  have hb0 : Below w.heap.size w W0 := by rw [← hW0]; exact (Below.refl _ _).alloc (Nat.le_refl _) _
  have hb01 : Below W0.heap.size W0 W1 := by rw [← hW1]; exact (Below.refl _ _).alloc (Nat.le_refl _) _
  have hb1 : Below w.heap.size w W1 := hb0.trans (hb01.mono (by omega))
  have hR0 : PolC W0 w.heap.size (.int .i64 p.tx) (.int .i64 p.time) (.int .i64 p.unit) (.int .i64 p.data) (.slice A n c) := by rw [← hW0]; exact heap_alloc_new w _
  have hR1 : PolC W1 w.heap.size (.int .i64 p.tx) (.int .i64 p.time) (.int .i64 p.unit) (.int .i64 p.data) (.slice A n c) := (hb01.block _ (by omega)).trans hR0
  have hV1 : PolC W1 (w.heap.size + 1) (.int .i64 q.tx) (.int .i64 q.time) (.int .i64 q.unit) (.int .i64 q.data) (.slice A2 n2 c2) := by
    have := heap_alloc_new W0 (.cells #[.int .i64 q.tx, .int .i64 q.time, .int .i64 q.unit, .int .i64 q.data, .slice A2 n2 c2] 24)
    rw [hW1, hs0] at this
    exact this
  obtain ⟨x0, x1, x2, x3, x4⟩ := hR1.cs
  obtain ⟨y0, y1, y2, y3, y4⟩ := hV1.cs
  have HB := Lib.hid hb1
  have EQ : Hid (∀ r, (r = true ↔ p.devs = q.devs) → Calls Try.prog 27 #[.slice A n c, .slice A2 n2 c2, .func (.func 28) #[] #[]] W1 fun e w' => e = .returned (.bool r) ∧ Below w.heap.size w w') := fun r hr => (EqualDevs_any18 p.devs q.devs A A2 n c n2 c2 W1 (h.below hb1) (h2.below hb1) r hr).mono fun e w' ⟨h1, h3⟩ => ⟨h1, hb1.trans (h3.mono hb1.size)⟩
  have hr' : (r = true) = (p.tx = q.tx ∧ p.time = q.time ∧ p.unit = q.unit ∧ p.data = q.data ∧ p.devs = q.devs) := propext hr
  clear h h2 hr hb0 hb01 hb1 hR0 hR1 hV1
  unfold polV18
  generalize p.devs = ds at *
  generalize q.devs = es at *
  generalize p.tx = u0 at *
  generalize p.time = u1 at *
  generalize p.unit = u2 at *
  generalize p.data = u3 at *
  generalize q.tx = z0 at *
  generalize q.time = z1 at *
  generalize q.unit = z2 at *
  generalize q.data = z3 at *
  by_cases e0 : u0 = z0
  · by_cases e1 : u1 = z1
    · by_cases e2 : u2 = z2
      · by_cases e3 : u3 = z3
        · subst e0 e1 e2 e3
          have EQ2 := Lib.hid (EQ.out r (by rw [hr']; simp))
          clear hr' EQ
          go_enter Try.func10, Try.ntmps10
          go_wp2_with (go_at_call 27; (with_reducible refine (EQ2.out).mono ?_); rintro e w3 ⟨rfl, hb3⟩; have HB3 := Lib.hid hb3; clear hb3)
          go_ret
          exact ⟨rfl, HB3.out⟩
        · obtain rfl : r = false := by cases r <;> simp [e3] at hr' <;> rfl
          subst e0 e1 e2
          clear hr' EQ
          go_enter Try.func10, Try.ntmps10
          go_wp2
          go_ret
          exact ⟨rfl, HB.out⟩
      · obtain rfl : r = false := by cases r <;> simp [e2] at hr' <;> rfl
        subst e0 e1
        clear hr' EQ
        go_enter Try.func10, Try.ntmps10
        go_wp2
        go_ret
        exact ⟨rfl, HB.out⟩
    · obtain rfl : r = false := by cases r <;> simp [e1] at hr' <;> rfl
      subst e0
      clear hr' EQ
      go_enter Try.func10, Try.ntmps10
      go_wp2
      go_ret
      exact ⟨rfl, HB.out⟩
  · obtain rfl : r = false := by cases r <;> simp [e0] at hr' <;> rfl
    clear hr' EQ
    go_enter Try.func10, Try.ntmps10
    go_wp2
    go_ret
    exact ⟨rfl, HB.out⟩
end Go.Proofs.Ytlmpaelcnnnkfaa

/-
  Texts, and structs of three integers, in a block of their own: one read, one stored.
-/
namespace Go.Proofs.Ytlmpaelcnnnkfaa
open Go.RowKit
set_option linter.unusedVariables false
set_option linter.unusedSimpArgs false

theorem triC_one (l : List (Int × Int × Int)) : ∀ u ∈ triC l, u.oneCell' = true := by
  induction l with
  | nil => intro u hu; cases hu
  | cons x r ih =>
    intro u hu
    simp only [triC, List.mem_cons] at hu
    rcases hu with rfl | rfl | rfl | hu
    · rfl
    · rfl
    · rfl
    · exact ih u hu
end Go.Proofs.Ytlmpaelcnnnkfaa

/-
  Words for memory, third part: append of elements of several cells.
-/
namespace Go.Proofs.Ytlmpaelcnnnkfaa
open Go.RowKit
set_option linter.unusedVariables false
set_option linter.unusedSimpArgs false

/-- append of a row of elements of 'size' cells each, whatever its address -/
theorem wpList_append_rowS {P : Program} (w : World) {ops : Array Oper} {rest : List Oper} {o : Oper} {a : Act} {Q : Exit → Act → World → Prop} (hgd : o.guard = none) (s x : Operand) (t : TypeId)
    (ho : o.op = .call { callee := .builtin .append, args := #[s, x], argTypes := #[t, t] })
    (base : Nat) (e : TypeId) (size : Nat) (z : Value) (bytes : Nat) (ht : P.underlying t = some (.slice e)) (hi : (P.info? e).map (fun i => (i.zero, i.size, i.bytes)) = some (some z, size, bytes)) (hzs : z.cells.size = size) (hsz : 0 < size)
    (v : Value) (n : Nat) (xs : List Value) (hs : a.eval s = v) (hown : Hid (w.ownsRow base e size v n xs)) (hb : base ≤ w.heap.size)
    (ao : Option Addr) (news : List Value) (m c : Nat) (hx : a.eval x = .slice ao m c) (hl : news.length = m * size) (hr : Row w ao news) (h1 : ∀ u ∈ news, u.oneCell' = true)
    (hn : (n + m) * bytes ≤ 140737488355328) (hby : 1 ≤ bytes)
    (h : ∀ v' w', Hid (w'.ownsRow base e size v' (n + m) (xs ++ news)) → base ≤ w'.heap.size → Below base w w' → wpList P ops Q rest (a.put o.dst v') w') :
    wpList P ops Q (o :: rest) a w := by
  obtain ⟨i0, hi0, hz0, hz1, hz2⟩ := info_parts hi
  have hnm : n + m ≤ 140737488355328 := Nat.le_trans (Nat.le_mul_of_pos_right _ (by omega)) hn
  cases ao with
  | some ad =>
    refine wpList_append_own _ hgd s x t ho base e i0 z size bytes ht hi0 hz0 hz1 hz2 hzs hsz v n xs hs hown.out ad m c news hx hl
      (fun j u hj => hr.at_ hj) h1 (by simp only [maxLen]; omega) hn hb ?_
    intro v' w' hown' hg _
    have hbw : Below base w w' := (Below.refl _ _).grown hg hb (fun k hk => (hown.out.lt k hk).1)
    exact h v' w' hown' (Nat.le_trans hb hbw.size) hbw
  | none =>
    have hnews : news = [] := by
      match news, hr with
      | [], _ => rfl
      | y :: r, hr => obtain ⟨ad, e, _⟩ := hr 0 y rfl; cases e
    subst hnews
    obtain rfl : m = 0 := by
      rcases Nat.eq_zero_or_pos m with h0 | h0
      · exact h0
      · have := Nat.mul_pos h0 hsz; simp at hl; omega
    refine wpList_plain hgd fun K hK => ?_
    have hrun := run_append_none_any (P := P) w base t o.type e i0 size ht hi0 v n xs hown.out c
    unfold Oper.wp
    simp [execOp, ho, resolve, invoke, builtin, hs, hx, hrun, Result.andThen]
    exact hK _ _ (h v w (by simpa using hown) hb (Below.refl _ _))

end Go.Proofs.Ytlmpaelcnnnkfaa

/-
  append onto a row of the call's own, all other blocks kept, and where the new slice lies: its old block, or a new one.
-/
namespace Go.Proofs.Ytlmpaelcnnnkfaa
open Go.RowKit
set_option linter.unusedVariables false
set_option linter.unusedSimpArgs false

theorem wpList_append_liesG {P : Program} (w : World) {ops : Array Oper} {rest : List Oper} {o : Oper} {a : Act} {Q : Exit → Act → World → Prop} (hgd : o.guard = none) (s x : Operand) (t : TypeId)
    (ho : o.op = .call { callee := .builtin .append, args := #[s, x], argTypes := #[t, t] })
    (base : Nat) (e : TypeId) (size : Nat) (z : Value) (bytes : Nat) (ht : P.underlying t = some (.slice e)) (hi : (P.info? e).map (fun i => (i.zero, i.size, i.bytes)) = some (some z, size, bytes)) (hzs : z.cells.size = size) (hsz : 0 < size)
    (v : Value) (n : Nat) (xs : List Value) (hs : a.eval s = v) (hown : Hid (w.ownsRow base e size v n xs)) (hb : base ≤ w.heap.size)
    (ad : Addr) (news : List Value) (m c : Nat) (hx : a.eval x = .slice (some ad) m c) (hl : news.length = m * size) (hr : Row w (some ad) news) (h1 : ∀ u ∈ news, u.oneCell' = true)
    (hm : 0 < m) (hn : (n + m) * bytes ≤ 140737488355328) (hby : 1 ≤ bytes)
    (h : ∀ g cap w', Hid (w'.ownsRow base e size (.slice (some ⟨g, 0, none⟩) (n + m) cap) (n + m) (xs ++ news)) → Hid (w.grownBy w' v.ownBlock) → Hid (v.ownBlock = some g ∨ g = w.heap.size) → wpList P ops Q rest (a.put o.dst (.slice (some ⟨g, 0, none⟩) (n + m) cap)) w') :
    wpList P ops Q (o :: rest) a w := by
  obtain ⟨i0, hi0, hz0, hz1, hz2⟩ := info_parts hi
  have hnm : n + m ≤ 140737488355328 := Nat.le_trans (Nat.le_mul_of_pos_right _ (by omega)) hn
  exact wpList_append_lies w hgd s x t ho base e i0 z size bytes ht hi0 hz0 hz1 hz2 hzs hsz v n xs hs hown.out ad m c news hx hl (fun j u hj => hr.at_ hj) h1 hm (by simp only [maxLen]; omega) hn hb _ rfl
    fun g cap w' h2 h3 h4 _ => h g cap w' h2 h3 h4

end Go.Proofs.Ytlmpaelcnnnkfaa

/-
  Layer 18: apart; devices in blocks of their own; Copy.
-/
namespace Go.Proofs.Ytlmpaelcnnnkfaa
open Go.RowKit
set_option linter.unusedVariables false
set_option linter.unusedSimpArgs false

/-! ### rows of mappings -/
theorem Trs.row18 {w : World} {A : Option Addr} {n c : Nat} {l : List (Int × Int × Int)} (h : Trs w A n c l) : Row w A (triC l) := fun i v hi => by
  have hil : i < (triC l).length := by
    by_cases hh : i < (triC l).length
    · exact hh
    · rw [List.getElem?_eq_none (by omega)] at hi; cases hi
  rw [triC_length] at hil
  have hk : i / 3 < l.length := by omega
  obtain ⟨ad, rfl, h0, h1, h2⟩ := h.row (i / 3) hk
  obtain ⟨t0, t1, t2⟩ := triC_at l (i / 3) hk
  refine ⟨ad, rfl, ?_⟩
  rcases (by omega : i = i / 3 * 3 ∨ i = i / 3 * 3 + 1 ∨ i = i / 3 * 3 + 2) with e | e | e
  · rw [e] at hi ⊢
    rw [t0] at hi
    cases hi
    exact h0
  · rw [e] at hi ⊢
    rw [t1] at hi
    cases hi
    exact h1
  · rw [e] at hi ⊢
    rw [t2] at hi
    cases hi
    exact h2
theorem info_map18 : (Try.prog.info? 43).map (fun i => (i.zero, i.size, i.bytes)) = some (some (.agg #[.int .i64 0, .int .i64 0, .int .i64 0]), 3, 24) := by kernel_rfl
theorem own_mono18 {w : World} {b b' : Nat} {e : TypeId} {size n : Nat} {v : Value} {xs : List Value} (h : w.ownsRow b e size v n xs) (hb : b' ≤ b) : w.ownsRow b' e size v n xs := by
  refine ⟨h.1, ?_⟩
  rcases h.2 with hn | ⟨g, cap, cur, hv, hg, rest⟩
  · exact .inl hn
  · exact .inr ⟨g, cap, cur, hv, Nat.le_trans hb hg, rest⟩
theorem own_grown18 {X Y : World} {b b2 : Nat} {e e2 : TypeId} {s s2 n n2 : Nat} {v v2 : Value} {xs xs2 : List Value} (h : X.ownsRow b e s v n xs) (h2 : X.ownsRow b2 e2 s2 v2 n2 xs2) (hne : e ≠ e2) (hg : X.grownBy Y v2.ownBlock) : Y.ownsRow b e s v n xs := by
  refine ⟨h.1, ?_⟩
  rcases h.2 with hn | ⟨g, cap, cur, hv, hgb, hh, rest⟩
  · exact .inl hn
  · refine .inr ⟨g, cap, cur, hv, hgb, (hg.block g (block_lt hh) (fun e' => ?_)).trans hh, rest⟩
    obtain ⟨_, cur2, hc⟩ := own_apartS h2 g e'.symm
    rw [hh] at hc
    injection hc with hc
    injection hc with _ e3 _
    exact hne e3

set_option maxRecDepth 100000 in
set_option maxHeartbeats 1600000 in
theorem apart_any18 (d : Dev18) (A : Option Addr) (m c : Nat) (w : World) (h : Trs w A m c d.maps) (hm : m ≤ 1000000) :
    Calls Try.prog 30 #[devV18 d A m c] w fun e w' => ∃ A' c', e = .returned (devV18 d A' m c') ∧ w'.ownsRow w.heap.size 43 3 (.slice A' m c') m (triC d.maps) ∧ Below w.heap.size w w' := by
  obtain ⟨W0, hW0⟩ : ∃ W0, w.alloc (.cells #[.int .i64 d.id, .int .i64 d.tx, .int .i64 d.made, .int .i64 d.snap, .slice A m c] 32) = W0 := ⟨_, rfl⟩
  obtain ⟨W1, hW1⟩ : ∃ W1, W0.alloc (.cells #[.int .i64 0, .int .i64 0, .int .i64 0, .int .i64 0, .slice none 0 0] 32) = W1 := ⟨_, rfl⟩
  have hs0 : W0.heap.size = w.heap.size + 1 := by rw [← hW0]; exact World.size_alloc _ _
  have hs1 : W1.heap.size = w.heap.size + 2 := by rw [← hW1, World.size_alloc, hs0]
  have hb0 : Below w.heap.size w W0 := by rw [← hW0]; exact (Below.refl _ _).alloc (Nat.le_refl _) _
  have hb01 : Below W0.heap.size W0 W1 := by rw [← hW1]; exact (Below.refl _ _).alloc (Nat.le_refl _) _
  have hb1 : Below w.heap.size w W1 := hb0.trans (hb01.mono (by omega))
  have hR0 : DevC W0 w.heap.size (.int .i64 d.id) (.int .i64 d.tx) (.int .i64 d.made) (.int .i64 d.snap) (.slice A m c) := by rw [← hW0]; exact heap_alloc_new w _
  have hR1 : DevC W1 w.heap.size (.int .i64 d.id) (.int .i64 d.tx) (.int .i64 d.made) (.int .i64 d.snap) (.slice A m c) := (hb01.block _ (by omega)).trans hR0
  have hV1 : DevC W1 (w.heap.size + 1) (.int .i64 0) (.int .i64 0) (.int .i64 0) (.int .i64 0) (.slice none 0 0) := by
    have := heap_alloc_new W0 (.cells #[.int .i64 0, .int .i64 0, .int .i64 0, .int .i64 0, .slice none 0 0] 32)
    rw [hW1, hs0] at this
    exact this
  have HR1 := Lib.hid hR1
  have HV1 := Lib.hid hV1
  have HB := Lib.hid hb1
  have HS1 := Lib.hid hs1
  have HROW := Lib.hid ((h.below hb1).row18)
  have hlen := h.len
  obtain ⟨⟨x0, x1, x2, x3, x4⟩, _, _, _, _, xf4⟩ := hR1.cs
  have OW : Hid (W1.ownsRow (w.heap.size + 2) 43 3 (.slice none 0 0) 0 []) := World.ownsRow_nil _ _ _ _
  obtain ⟨i0, hi0, hz0, hz1, hz2⟩ := info_parts info_map18
  clear h hb0 hb01 hb1 hR0 hR1 hV1
  unfold devV18
  generalize d.id = u0 at *
  generalize d.tx = u1 at *
  generalize d.made = u2 at *
  generalize d.snap = u3 at *
  generalize d.maps = ms at *
  go_enter Try.func30, Try.ntmps30
  go_wp2_with (at_builtin; refine wpList_append_rowS _ rfl _ _ _ rfl (w.heap.size + 2) 43 3 _ 24 Try.underlying30 info_map18 rfl (by omega) _ 0 [] rfl OW (by have := HS1.out; omega) A (triC ms) m c rfl (by rw [triC_length, hlen]) HROW.out (triC_one _) (by omega) (by omega) ?_; intro v5 w5 ho5 hs5 hb5; obtain ⟨A', c', hv5, _, _⟩ := ownsRow_form ho5.out; rw [Nat.zero_add] at hv5; subst hv5; have HO5 := Lib.hid ho5; have HB5 := Lib.hid hb5; have hd := (hb5.block w.heap.size (by omega)).trans HR1.out; have hd := (show DevC w5 w.heap.size _ _ _ _ _ from hd); obtain ⟨⟨y0, y1, y2, y3, y4⟩, _, _, _, _, yf4⟩ := hd.cs; have HD5 := Lib.hid hd; have hz := (hb5.block (w.heap.size + 1) (by omega)).trans HV1.out; have hz := (show DevC w5 (w.heap.size + 1) _ _ _ _ _ from hz); obtain ⟨⟨z0, z1, z2, z3, z4⟩, zf0, zf1, zf2, zf3, zf4⟩ := hz.cs; have HZ5 := Lib.hid hz; clear hd hz ho5 hb5)
  have hzz : DevC (w5.setCell ⟨w.heap.size, 4, none⟩ (.slice A' m c')) (w.heap.size + 1) (.int .i64 0) (.int .i64 0) (.int .i64 0) (.int .i64 0) (.slice none 0 0) := (heap_setCell_other _ _ (w.heap.size + 1) _ (by show ¬ w.heap.size + 1 = w.heap.size; omega)).trans HZ5.out
  have h5 := hzz.set5 (.int .i64 u0) (.int .i64 u1) (.int .i64 u2) (.int .i64 u3) (.slice A' m c')
  refine bodyPost_ret (res1_18 Try.results30 _ _ (a := ⟨w.heap.size + 1, 0, none⟩) rfl h5.load) rfl ?_
  refine ⟨A', c', rfl, own_mono18 (b := w.heap.size + 2) ?_ (by omega), ?_⟩
  · exact own_low18 (own_low18 (own_low18 (own_low18 (own_low18 (own_low18 (by simpa using HO5.out.out) (by show w.heap.size < w.heap.size + 2; omega) _) (by show w.heap.size + 1 < w.heap.size + 2; omega) _) (by show w.heap.size + 1 < w.heap.size + 2; omega) _) (by show w.heap.size + 1 < w.heap.size + 2; omega) _) (by show w.heap.size + 1 < w.heap.size + 2; omega) _) (by show w.heap.size + 1 < w.heap.size + 2; omega) _
  · have hb := HB.out.trans (HB5.out.mono (by omega))
    exact (((((hb.setCell (p := ⟨w.heap.size, 4, none⟩) (Nat.le_refl _) _).setCell (p := ⟨w.heap.size + 1, 0, none⟩) (Nat.le_succ _) _).setCell (p := ⟨w.heap.size + 1, 1, none⟩) (Nat.le_succ _) _).setCell (p := ⟨w.heap.size + 1, 2, none⟩) (Nat.le_succ _) _).setCell (p := ⟨w.heap.size + 1, 3, none⟩) (Nat.le_succ _) _).setCell (p := ⟨w.heap.size + 1, 4, none⟩) (Nat.le_succ _) _

/-! ### devices in a row of their own, each with a row of mappings of its own -/
theorem devC18_append (a b : List DevL18) : devC18 (a ++ b) = devC18 a ++ devC18 b := by
  induction a with
  | nil => rfl
  | cons x r ih => simp [devC18, ih]
theorem devC18_one (l : List DevL18) : ∀ u ∈ devC18 l, u.oneCell' = true := by
  induction l with
  | nil => intro u hu; cases hu
  | cons x r ih =>
    intro u hu
    simp only [devC18, List.mem_cons] at hu
    rcases hu with rfl | rfl | rfl | rfl | rfl | hu
    · rfl
    · rfl
    · rfl
    · rfl
    · rfl
    · exact ih u hu
/-- one device more -/
theorem OwnD18.snoc {X Y : World} {B : Nat} {v v' : Value} {n : Nat} {L : List DevL18} {x : DevL18} (h : OwnD18 X B v n L) (hx : X.ownsRow B 43 3 (rowV18 x) x.2.2.1 (triC x.1.maps)) (hnew : ∀ k (hk : k < L.length) g, (rowV18 L[k]).ownBlock = some g → (rowV18 x).ownBlock ≠ some g)
    (hrow : Y.ownsRow B 32 5 v' (n + 1) (devC18 L ++ [.int .i64 x.1.id, .int .i64 x.1.tx, .int .i64 x.1.made, .int .i64 x.1.snap, rowV18 x])) (hg : X.grownBy Y v.ownBlock) : OwnD18 Y B v' (n + 1) (L ++ [x]) := by
  refine ⟨?_, fun k hk => ?_, fun j k hj hk hne g hgj => ?_⟩
  · rw [devC18_append]; exact hrow
  · by_cases hkl : k < L.length
    · rw [List.getElem_append_left hkl]
      exact own_grown18 (h.each k hkl) h.row (by decide) hg
    · obtain rfl : k = L.length := by simp at hk; omega
      rw [List.getElem_concat_length (by rfl)]
      exact own_grown18 hx h.row (by decide) hg
  · by_cases hjl : j < L.length
    · rw [List.getElem_append_left hjl] at hgj
      by_cases hkl : k < L.length
      · rw [List.getElem_append_left hkl]
        exact h.two j k hjl hkl hne g hgj
      · obtain rfl : k = L.length := by simp at hk; omega
        rw [List.getElem_concat_length (by rfl)]
        exact hnew j hjl g hgj
    · obtain rfl : j = L.length := by simp at hj; omega
      rw [List.getElem_concat_length (by rfl)] at hgj
      have hkl : k < L.length := by simp at hk; omega
      rw [List.getElem_append_left hkl]
      exact fun e => hnew k hkl g e hgj
end Go.Proofs.Ytlmpaelcnnnkfaa

/-
  Layer 18: Copy.
-/
namespace Go.Proofs.Ytlmpaelcnnnkfaa
open Go.RowKit
set_option linter.unusedVariables false
set_option linter.unusedSimpArgs false

theorem PolC.load18 {w : World} {b : Nat} {a0 a1 a2 a3 : Int} {A : Option Addr} {n c : Nat} (h : PolC w b (.int .i64 a0) (.int .i64 a1) (.int .i64 a2) (.int .i64 a3) (.slice A n c)) : (loadVar 24 ⟨b, 0, none⟩).run Try.prog w = .ok (.agg #[.int .i64 a0, .int .i64 a1, .int .i64 a2, .int .i64 a3, .slice A n c]) w := run_loadVar_row w b _ _ _ _ _ h Try.underlying24 rfl (by kernel_rfl)
theorem PolC.set5 {w : World} {b : Nat} {v0 v1 v2 v3 v4 : Value} (h : PolC w b v0 v1 v2 v3 v4) (a0 a1 a2 a3 a4 : Value) : PolC (((((w.setCell ⟨b, 0, none⟩ a0).setCell ⟨b, 1, none⟩ a1).setCell ⟨b, 2, none⟩ a2).setCell ⟨b, 3, none⟩ a3).setCell ⟨b, 4, none⟩ a4) b a0 a1 a2 a3 a4 := by
  have h1 : Blk w b 24 [v0, v1, v2, v3, v4] := h
  exact ((((h1.set 0 a0).set 1 a1).set 2 a2).set 3 a3).set 4 a4
set_option maxRecDepth 100000 in
set_option maxHeartbeats 3200000 in
theorem Copy_any18 (p : Pol18) (A : Option Addr) (n c : Nat) (w : World) (h : Dvs w A n c p.devs) (hn : n ≤ 1000000) (hm : cnt18 p.devs ≤ 1000000) :
    Calls Try.prog 22 #[polV18 p A n c] w fun e w' => ∃ A' c' L, e = .returned (polV18 p A' n c') ∧ OwnD18 w' (w.heap.size + 2) (.slice A' n c') n L ∧ L.map (·.1) = p.devs ∧ Below w.heap.size w w' := by
  have hl := h.len
  obtain ⟨W0, hW0⟩ : ∃ W0, w.alloc (.cells #[.int .i64 p.tx, .int .i64 p.time, .int .i64 p.unit, .int .i64 p.data, .slice A n c] 24) = W0 := ⟨_, rfl⟩
  obtain ⟨W1, hW1⟩ : ∃ W1, W0.alloc (.cells #[.int .i64 0, .int .i64 0, .int .i64 0, .int .i64 0, .slice none 0 0] 24) = W1 := ⟨_, rfl⟩
  have hs0 : W0.heap.size = w.heap.size + 1 := by rw [← hW0]; exact World.size_alloc _ _
  have hs1 : W1.heap.size = w.heap.size + 2 := by rw [← hW1, World.size_alloc, hs0]
  have hb0 : Below w.heap.size w W0 := by rw [← hW0]; exact (Below.refl _ _).alloc (Nat.le_refl _) _
  have hb01 : Below W0.heap.size W0 W1 := by rw [← hW1]; exact (Below.refl _ _).alloc (Nat.le_refl _) _
  have hb1 : Below w.heap.size w W1 := hb0.trans (hb01.mono (by omega))
  have hR0 : PolC W0 w.heap.size (.int .i64 p.tx) (.int .i64 p.time) (.int .i64 p.unit) (.int .i64 p.data) (.slice A n c) := by rw [← hW0]; exact heap_alloc_new w _
  have hR1 : PolC W1 w.heap.size (.int .i64 p.tx) (.int .i64 p.time) (.int .i64 p.unit) (.int .i64 p.data) (.slice A n c) := (hb01.block _ (by omega)).trans hR0
  have hV1 : PolC W1 (w.heap.size + 1) (.int .i64 0) (.int .i64 0) (.int .i64 0) (.int .i64 0) (.slice none 0 0) := by
    have := heap_alloc_new W0 (.cells #[.int .i64 0, .int .i64 0, .int .i64 0, .int .i64 0, .slice none 0 0] 24)
    rw [hW1, hs0] at this
    exact this
  have HR1 := Lib.hid hR1
  have HV1 := Lib.hid hV1
  have HB := Lib.hid hb1
  have HD := Lib.hid (h.below hb1)
  have HMS : Hid (∀ k, k < n → (p.devs.getD k zero18).maps.length ≤ 1000000) := fun k hk => by
    have h1 := cnt18_take (ds := p.devs) (k := k) (by omega)
    have h2 := cnt18_le (ds := p.devs) (k + 1)
    omega
  obtain ⟨x0, x1, x2, x3, x4⟩ := hR1.cs
  have TK : Hid (∀ k, k < n → p.devs.take (k + 1) = p.devs.take k ++ [p.devs.getD k zero18]) := fun k hk => by rw [List.take_succ_eq_append_getElem (by omega), getD18 (by omega)]
  have TA : Hid (p.devs.take n = p.devs) := List.take_of_length_le (by omega)
  clear h hb0 hb01 hb1 hR0 hR1 hV1 hm
  unfold polV18
  generalize p.tx = v0 at *
  generalize p.time = v1 at *
  generalize p.unit = v2 at *
  generalize p.data = v3 at *
  generalize p.devs = ds at *
  go_enter Try.func22, Try.ntmps22
  go_wp2
  go_loopw [3, 9] (fun v i wr => ∃ (k : Nat) (A' : Option Addr) (c' : Nat) (L : List DevL18), k ≤ n ∧ i = .int .i64 k ∧ v = .slice A' k c' ∧ Hid (OwnD18 wr (w.heap.size + 2) (.slice A' k c') k L) ∧ Hid (L.map (·.1) = ds.take k) ∧ Hid (Below (w.heap.size + 2) W1 wr)) (fun _ i _ => n - (intOf i).toNat)
  case atStart => exact ⟨0, none, 0, [], by omega, rfl, rfl, OwnD18.nil _ _, rfl, Below.refl _ _⟩
  case round =>
    obtain ⟨k, A1, c1, L, hk, rfl, rfl, HO, HL, hbel⟩ := hrel
    by_cases hlt : k < n
    · obtain ⟨b, off, A', m, c', rfl, hb, d0, d1, d2, d3, d4, hT⟩ := HD.out.at18 hlt
      have hb' : b < w.heap.size + 2 := by omega
      have hs2 : w.heap.size + 2 ≤ wr.heap.size := by have := hbel.out.size; omega
      have g0 := (hbel.out.cell (p := ⟨b, off + k * 5, none⟩) hb').trans d0
      have g1 := (hbel.out.cell (p := ⟨b, off + k * 5 + 1, none⟩) hb').trans d1
      have g2 := (hbel.out.cell (p := ⟨b, off + k * 5 + 2, none⟩) hb').trans d2
      have g3 := (hbel.out.cell (p := ⟨b, off + k * 5 + 3, none⟩) hb').trans d3
      have g4 := (hbel.out.cell (p := ⟨b, off + k * 5 + 4, none⟩) hb').trans d4
      have hba := hbel.out.alloc hs2 (.cells #[.int .i64 (ds.getD k zero18).id, .int .i64 (ds.getD k zero18).tx, .int .i64 (ds.getD k zero18).made, .int .i64 (ds.getD k zero18).snap, .slice A' m c'] 32)
      have HOA := Lib.hid (HO.out.later ((Below.refl _ wr).alloc (Nat.le_refl _) (.cells #[.int .i64 (ds.getD k zero18).id, .int .i64 (ds.getD k zero18).tx, .int .i64 (ds.getD k zero18).made, .int .i64 (ds.getD k zero18).snap, .slice A' m c'] 32)))
      have hml := hT.len
      have hmm : m ≤ 1000000 := by have := HMS.out k hlt; omega
      have hT2 : Trs (wr.alloc (.cells #[.int .i64 (ds.getD k zero18).id, .int .i64 (ds.getD k zero18).tx, .int .i64 (ds.getD k zero18).made, .int .i64 (ds.getD k zero18).snap, .slice A' m c'] 32)) A' m c' (ds.getD k zero18).maps := hT.below (by rw [hs1]; exact hba)
      have AP := Lib.hid (apart_any18 (ds.getD k zero18) A' m c' _ hT2 hmm)
      unfold devV18 at AP
      have HBA := Lib.hid hba
      have HTK := Lib.hid (TK.out k hlt)
      clear d0 d1 d2 d3 d4 hT hT2 hba HO
      generalize ds.getD k zero18 = d at *
      have hsa : (wr.alloc (.cells #[.int .i64 d.id, .int .i64 d.tx, .int .i64 d.made, .int .i64 d.snap, .slice A' m c'] 32)).heap.size = wr.heap.size + 1 := World.size_alloc _ _
      have HSA := Lib.hid hsa
      have hLk : L.length = k := HOA.out.len
      have HLK := Lib.hid hLk
      clear hLk hsa
      go_wp2_with (first
        | (go_at_call 30; (with_reducible refine (AP.out).mono ?_); rintro e w6 ⟨A2, c2, rfl, hrow, hb6⟩; have HB6 := Lib.hid (HBA.out.trans (hb6.mono (by have := HSA.out; omega))); have hs6 := hb6.size; have HS6 : Hid (w.heap.size + 2 ≤ w6.heap.size) := (by have h1 := HSA.out; show w.heap.size + 2 ≤ w6.heap.size; omega); have HO6 := Lib.hid ((HOA.out.later hb6).later ((Below.refl w6.heap.size w6).alloc (Nat.le_refl _) (.cells #[.int .i64 d.id, .int .i64 d.tx, .int .i64 d.made, .int .i64 d.snap, .slice A2 m c2] 32))); have HX6 : Hid ((w6.alloc (.cells #[.int .i64 d.id, .int .i64 d.tx, .int .i64 d.made, .int .i64 d.snap, .slice A2 m c2] 32)).ownsRow (w.heap.size + 2) 43 3 (.slice A2 m c2) m (triC d.maps)) := own_mono18 (hrow.alloc _) (by have := HSA.out; omega); have HN6 : Hid (∀ j (hj : j < L.length) g, (rowV18 L[j]).ownBlock = some g → (Value.slice A2 m c2).ownBlock ≠ some g) := fun j hj g h1 h2 => (by have a1 := block_lt (own_apartS (HOA.out.each j hj) g h1).2.choose_spec; have a2 := (own_apartS hrow g h2).1; omega); have HROW6 : Hid (Row (w6.alloc (.cells #[.int .i64 d.id, .int .i64 d.tx, .int .i64 d.made, .int .i64 d.snap, .slice A2 m c2] 32)) (some ⟨w6.heap.size, 0, none⟩) [.int .i64 d.id, .int .i64 d.tx, .int .i64 d.made, .int .i64 d.snap, .slice A2 m c2]) := Row.of_block (heap_alloc_new w6 _); clear hrow hb6 hs6)
        | (at_builtin; refine wpList_append_liesG _ rfl _ _ _ rfl (w.heap.size + 2) 32 5 _ 56 Try.underlying22 info_dev18 rfl (by omega) (.slice A1 k c1) k (devC18 L) rfl (Lib.hid HO6.out.row) (by have := HS6.out; simp; omega) ⟨w6.heap.size, 0, none⟩ [.int .i64 d.id, .int .i64 d.tx, .int .i64 d.made, .int .i64 d.snap, .slice A2 m c2] 1 1 rfl rfl HROW6.out (devC18_one [(d, A2, m, c2)]) (by omega) (by omega) (by omega) ?_; intro g cap w7 ho7 hg7 hv7; have HO7 := Lib.hid (OwnD18.snoc (x := (d, A2, m, c2)) HO6.out HX6.out HN6.out ho7.out hg7.out); have HB7 : Hid (Below (w.heap.size + 2) W1 w7) := (HB6.out.alloc HS6.out _).grown hg7.out (by have := HS6.out; simp; omega) (fun q e => (own_apartS HO6.out.row q e).1)))
      go_roundw
      all_goals first
        | exact ⟨k + 1, _, _, L ++ [(d, A2, m, c2)], by omega, by push_cast; rfl, rfl, HO7.out, by rw [HTK.out, List.map_append, HL.out]; rfl, HB7⟩
        | (simp only [intOf]; omega)
    · obtain rfl : k = n := by omega
      have hP := (show PolC wr w.heap.size (.int .i64 v0) (.int .i64 v1) (.int .i64 v2) (.int .i64 v3) (.slice A k c) from (hbel.out.block _ (by omega)).trans HR1.out)
      have hZ := (show PolC wr (w.heap.size + 1) (.int .i64 0) (.int .i64 0) (.int .i64 0) (.int .i64 0) (.slice none 0 0) from (hbel.out.block _ (by omega)).trans HV1.out)
      obtain ⟨p0, p1, p2, p3, p4⟩ := hP.cs
      have pf := hP.free 4
      obtain ⟨z0, z1, z2, z3, z4⟩ := hZ.cs
      have zf0 := hZ.free 0
      have zf1 := hZ.free 1
      have zf2 := hZ.free 2
      have zf3 := hZ.free 3
      have zf4 := hZ.free 4
      have HZ := Lib.hid hZ
      have HTA := Lib.hid TA.out
      clear hP hZ
      go_wp2
      have hzz : PolC (wr.setCell ⟨w.heap.size, 4, none⟩ (.slice A1 k c1)) (w.heap.size + 1) (.int .i64 0) (.int .i64 0) (.int .i64 0) (.int .i64 0) (.slice none 0 0) := (heap_setCell_other _ _ (w.heap.size + 1) _ (by show ¬ w.heap.size + 1 = w.heap.size; omega)).trans HZ.out
      have h5 := hzz.set5 (.int .i64 v0) (.int .i64 v1) (.int .i64 v2) (.int .i64 v3) (.slice A1 k c1)
      refine bodyPost_ret (res1_18 Try.results22 _ _ (a := ⟨w.heap.size + 1, 0, none⟩) rfl h5.load18) rfl ?_
      refine ⟨A1, c1, L, rfl, ?_, by rw [HL.out, HTA.out], ?_⟩
      · exact (((((HO.out.low (by show w.heap.size < w.heap.size + 2; omega) _).low (by show w.heap.size + 1 < w.heap.size + 2; omega) _).low (by show w.heap.size + 1 < w.heap.size + 2; omega) _).low (by show w.heap.size + 1 < w.heap.size + 2; omega) _).low (by show w.heap.size + 1 < w.heap.size + 2; omega) _).low (by show w.heap.size + 1 < w.heap.size + 2; omega) _
      · have hb := HB.out.trans (hbel.out.mono (by omega))
        exact (((((hb.setCell (p := ⟨w.heap.size, 4, none⟩) (Nat.le_refl _) _).setCell (p := ⟨w.heap.size + 1, 0, none⟩) (Nat.le_succ _) _).setCell (p := ⟨w.heap.size + 1, 1, none⟩) (Nat.le_succ _) _).setCell (p := ⟨w.heap.size + 1, 2, none⟩) (Nat.le_succ _) _).setCell (p := ⟨w.heap.size + 1, 3, none⟩) (Nat.le_succ _) _).setCell (p := ⟨w.heap.size + 1, 4, none⟩) (Nat.le_succ _) _
end Go.Proofs.Ytlmpaelcnnnkfaa

/-
  Layer 18: Find.
-/
namespace Go.Proofs.Ytlmpaelcnnnkfaa
open Go.RowKit
set_option linter.unusedVariables false
set_option linter.unusedSimpArgs false

set_option maxRecDepth 100000 in
set_option maxHeartbeats 3200000 in
theorem Find_any18 (p : Pol18) (id : Int) (A : Option Addr) (n c : Nat) (w : World) (h : Dvs w A n c p.devs) (hm : cnt18 p.devs ≤ 1000000) :
    Calls Try.prog 16 #[polV18 p A n c, .int .i64 id] w (FindP18 p id w) := by
  have hle : n ≤ 9223372036854775807 := Nat.le_trans h.cap h.most
  have hl := h.len
  obtain ⟨W0, hW0⟩ : ∃ W0, w.alloc (.cells #[.int .i64 p.tx, .int .i64 p.time, .int .i64 p.unit, .int .i64 p.data, .slice A n c] 24) = W0 := ⟨_, rfl⟩
  obtain ⟨W1, hW1⟩ : ∃ W1, W0.alloc (.cells #[.int .i64 0, .int .i64 0, .int .i64 0, .int .i64 0, .slice none 0 0] 32) = W1 := ⟨_, rfl⟩
  have hs0 : W0.heap.size = w.heap.size + 1 := by rw [← hW0]; exact World.size_alloc _ _
  have hs1 : W1.heap.size = w.heap.size + 2 := by rw [← hW1, World.size_alloc, hs0]
  have hb0 : Below w.heap.size w W0 := by rw [← hW0]; exact (Below.refl _ _).alloc (Nat.le_refl _) _
  have hb01 : Below W0.heap.size W0 W1 := by rw [← hW1]; exact (Below.refl _ _).alloc (Nat.le_refl _) _
  have hb1 : Below w.heap.size w W1 := hb0.trans (hb01.mono (by omega))
  have hR0 : PolC W0 w.heap.size (.int .i64 p.tx) (.int .i64 p.time) (.int .i64 p.unit) (.int .i64 p.data) (.slice A n c) := by rw [← hW0]; exact heap_alloc_new w _
  have hR1 : PolC W1 w.heap.size (.int .i64 p.tx) (.int .i64 p.time) (.int .i64 p.unit) (.int .i64 p.data) (.slice A n c) := (hb01.block _ (by omega)).trans hR0
  have hV1 : DevC W1 (w.heap.size + 1) (.int .i64 0) (.int .i64 0) (.int .i64 0) (.int .i64 0) (.slice none 0 0) := by
    have := heap_alloc_new W0 (.cells #[.int .i64 0, .int .i64 0, .int .i64 0, .int .i64 0, .slice none 0 0] 32)
    rw [hW1, hs0] at this
    exact this
  have HV1 := Lib.hid hV1
  have HB := Lib.hid hb1
  have HD := Lib.hid (h.below hb1)
  have HMS : Hid (∀ k, k < n → (p.devs.getD k zero18).maps.length ≤ 1000000) := fun k hk => by
    have h1 := cnt18_take (ds := p.devs) (k := k) (by omega)
    have h2 := cnt18_le (ds := p.devs) (k + 1)
    omega
  obtain ⟨x0, x1, x2, x3, x4⟩ := hR1.cs
  have YES : Hid (∀ k, k < n → (∀ j, j < k → (p.devs.getD j zero18).id ≠ id) → (p.devs.getD k zero18).id = id → ∀ (w' : World) A' m c', Trs w' A' m c' (p.devs.getD k zero18).maps → Below w.heap.size w w' → FindP18 p id w (.returned (.tuple #[devV18 (p.devs.getD k zero18) A' m c', .bool true])) w') := fun k hk hj he w' A' m c' hT hb => by
    have hf := find18_yes (ds := p.devs) (id := id) (k := k) (by omega) hj he
    unfold FindP18
    rw [hf]
    exact ⟨⟨A', m, c', rfl, hT⟩, hb⟩
  have NO : Hid ((∀ j, j < n → (p.devs.getD j zero18).id ≠ id) → ∀ w', Below w.heap.size w w' → FindP18 p id w (.returned (.tuple #[devV18 zero18 none 0 0, .bool false])) w') := fun hj w' hb => by
    have hf := find18_no (ds := p.devs) (id := id) (by rw [hl]; exact hj)
    unfold FindP18
    rw [hf]
    exact ⟨⟨none, 0, 0, rfl, Trs.nil w'⟩, hb⟩
  clear h hb0 hb01 hb1 hR0 hR1 hV1 hm
  generalize FindP18 p id w = Q at *
  unfold polV18
  generalize p.tx = v0 at *
  generalize p.time = v1 at *
  generalize p.unit = v2 at *
  generalize p.data = v3 at *
  generalize p.devs = ds at *
  go_enter Try.func16, Try.ntmps16
  go_wp2
  go_loopw [11] (fun i wr => ∃ (k : Nat), k ≤ n ∧ i = .int .i64 k ∧ Hid (∀ j, j < k → (ds.getD j zero18).id ≠ id) ∧ Hid (Below (w.heap.size + 2) W1 wr)) (fun i _ => n - (intOf i).toNat)
  case atStart => exact ⟨0, by omega, rfl, fun j hj => by omega, Below.refl _ _⟩
  case round =>
    obtain ⟨k, hk, rfl, HJ, hbel⟩ := hrel
    have hZ := (show DevC wr (w.heap.size + 1) (.int .i64 0) (.int .i64 0) (.int .i64 0) (.int .i64 0) (.slice none 0 0) from (hbel.out.block _ (by omega)).trans HV1.out)
    have hs2 : w.heap.size + 2 ≤ wr.heap.size := by have := hbel.out.size; omega
    by_cases hlt : k < n
    · obtain ⟨b, off, A', m, c', rfl, hb, d0, d1, d2, d3, d4, hT⟩ := HD.out.at18 hlt
      have hb' : b < w.heap.size + 2 := by omega
      have g0 := (hbel.out.cell (p := ⟨b, off + k * 5, none⟩) hb').trans d0
      have g1 := (hbel.out.cell (p := ⟨b, off + k * 5 + 1, none⟩) hb').trans d1
      have g2 := (hbel.out.cell (p := ⟨b, off + k * 5 + 2, none⟩) hb').trans d2
      have g3 := (hbel.out.cell (p := ⟨b, off + k * 5 + 3, none⟩) hb').trans d3
      have g4 := (hbel.out.cell (p := ⟨b, off + k * 5 + 4, none⟩) hb').trans d4
      have hba := hbel.out.alloc hs2 (.cells #[.int .i64 (ds.getD k zero18).id, .int .i64 (ds.getD k zero18).tx, .int .i64 (ds.getD k zero18).made, .int .i64 (ds.getD k zero18).snap, .slice A' m c'] 32)
      have hml := hT.len
      have hmm : m ≤ 1000000 := by have := HMS.out k hlt; omega
      have HBA := Lib.hid hba
      by_cases he : (ds.getD k zero18).id = id
      · have hT2 : Trs (wr.alloc (.cells #[.int .i64 (ds.getD k zero18).id, .int .i64 (ds.getD k zero18).tx, .int .i64 (ds.getD k zero18).made, .int .i64 (ds.getD k zero18).snap, .slice A' m c'] 32)) A' m c' (ds.getD k zero18).maps := hT.below (by rw [hs1]; exact hba)
        have AP := Lib.hid (apart_any18 (ds.getD k zero18) A' m c' _ hT2 hmm)
        have HY := Lib.hid (YES.out k hlt HJ.out he)
        have hsa : (wr.alloc (.cells #[.int .i64 (ds.getD k zero18).id, .int .i64 (ds.getD k zero18).tx, .int .i64 (ds.getD k zero18).made, .int .i64 (ds.getD k zero18).snap, .slice A' m c'] 32)).heap.size = wr.heap.size + 1 := World.size_alloc _ _
        have HSA := Lib.hid hsa
        unfold devV18 at AP HY
        have HZ := Lib.hid hZ
        clear d0 d1 d2 d3 d4 hT hT2 hba hsa hZ NO YES HJ
        generalize ds.getD k zero18 = d at *
        subst he
        go_wp2_with (go_at_call 30; (with_reducible refine (AP.out).mono ?_); rintro e w6 ⟨A2, c2, rfl, hrow, hb6⟩; have hB6 := HBA.out.trans (hb6.mono (by have := HSA.out; omega)); have hz6 := (show DevC w6 (w.heap.size + 1) (.int .i64 0) (.int .i64 0) (.int .i64 0) (.int .i64 0) (.slice none 0 0) from (hB6.block _ (by omega)).trans HV1.out); obtain ⟨⟨z0, z1, z2, z3, z4⟩, zf0, zf1, zf2, zf3, zf4⟩ := hz6.cs; have HZ6 := Lib.hid hz6; have HB6 := Lib.hid hB6; have HROW := Lib.hid (own_mono18 (b' := w.heap.size + 2) hrow (by have := HSA.out; omega)); clear hz6 hB6 hrow hb6)
        have h5 := HZ6.out.set5 (.int .i64 d.id) (.int .i64 d.tx) (.int .i64 d.made) (.int .i64 d.snap) (.slice A2 m c2)
        have HR5 := own_low18 (own_low18 (own_low18 (own_low18 (own_low18 HROW.out (a := ⟨w.heap.size + 1, 0, none⟩) (by show w.heap.size + 1 < w.heap.size + 2; omega) (.int .i64 d.id)) (a := ⟨w.heap.size + 1, 1, none⟩) (by show w.heap.size + 1 < w.heap.size + 2; omega) (.int .i64 d.tx)) (a := ⟨w.heap.size + 1, 2, none⟩) (by show w.heap.size + 1 < w.heap.size + 2; omega) (.int .i64 d.made)) (a := ⟨w.heap.size + 1, 3, none⟩) (by show w.heap.size + 1 < w.heap.size + 2; omega) (.int .i64 d.snap)) (a := ⟨w.heap.size + 1, 4, none⟩) (by show w.heap.size + 1 < w.heap.size + 2; omega) (.slice A2 m c2)
        obtain ⟨A3, c3, e3, hT3⟩ := Trs.of_own HR5
        cases e3
        have hb := HB.out.trans (HB6.out.mono (by omega))
        have hfin := HY.out _ A2 m c2 hT3 (((((hb.setCell (p := ⟨w.heap.size + 1, 0, none⟩) (Nat.le_succ _) _).setCell (p := ⟨w.heap.size + 1, 1, none⟩) (Nat.le_succ _) _).setCell (p := ⟨w.heap.size + 1, 2, none⟩) (Nat.le_succ _) _).setCell (p := ⟨w.heap.size + 1, 3, none⟩) (Nat.le_succ _) _).setCell (p := ⟨w.heap.size + 1, 4, none⟩) (Nat.le_succ _) _)
        refine bodyPost_ret (res18_cell Try.results16 _ _ (a := ⟨w.heap.size + 1, 0, none⟩) rfl h5.load) rfl ?_
        exact hfin
      · have HJ2 : Hid (∀ j, j < k + 1 → (ds.getD j zero18).id ≠ id) := fun j hj => by
          by_cases e : j = k
          · rw [e]; exact he
          · exact HJ.out j (by omega)
        clear d0 d1 d2 d3 d4 hT hba hZ NO YES HJ
        generalize ds.getD k zero18 = d at *
        go_wp2
        go_roundw
        all_goals first
          | exact ⟨k + 1, by omega, by push_cast; rfl, HJ2, HBA⟩
          | (simp only [intOf]; omega)
    · obtain rfl : k = n := by omega
      have HN := Lib.hid (NO.out HJ.out)
      obtain ⟨⟨r0, r1, r2, r3, r4⟩, f0, f1, f2, f3, f4⟩ := hZ.cs
      have HZ := Lib.hid hZ
      clear hZ
      go_wp2
      have h5 := HZ.out.set5 (.int .i64 0) (.int .i64 0) (.int .i64 0) (.int .i64 0) (.slice none 0 0)
      refine bodyPost_ret (res18_cell Try.results16 _ _ (a := ⟨w.heap.size + 1, 0, none⟩) rfl h5.load) rfl ?_
      have hb := HB.out.trans (hbel.out.mono (by omega))
      exact HN.out _ (((((hb.setCell (p := ⟨w.heap.size + 1, 0, none⟩) (Nat.le_succ _) _).setCell (p := ⟨w.heap.size + 1, 1, none⟩) (Nat.le_succ _) _).setCell (p := ⟨w.heap.size + 1, 2, none⟩) (Nat.le_succ _) _).setCell (p := ⟨w.heap.size + 1, 3, none⟩) (Nat.le_succ _) _).setCell (p := ⟨w.heap.size + 1, 4, none⟩) (Nat.le_succ _) _)
end Go.Proofs.Ytlmpaelcnnnkfaa

/-
  Layer 18: what the laws keep; Refs of any pool.
-/
namespace Go.Proofs.Ytlmpaelcnnnkfaa
open Go.RowKit
set_option linter.unusedVariables false
set_option linter.unusedSimpArgs false

theorem chk18_few {p : Pol18} (h : chkE18 p = 0) : cnt18 p.devs ≤ 16384 := by
  have : ¬ (4096 < p.devs.length ∨ 16384 < cnt18 p.devs) := fun h2 => by
    unfold chkE18 at h
    split at h
    · cases h
    · cases h
  omega
theorem refRefs_any18 (p : Pol18) (A : Option Addr) (n c : Nat) (w : World) (h : Dvs w A n c p.devs) (hc : cnt18 p.devs ≤ 1000000) :
    Calls Try.prog 20 #[polV18 p A n c] w fun e w' => ∃ A' c', e = .returned (.slice A' (refL18 p).length c') ∧ Ints w' A' (refL18 p).length c' (refL18 p) ∧ Below w.heap.size w w' := by
  by_cases hv : chkE18 p = 0
  · have hd := chk18_data hv
    have e : refL18 p = refs18 p.data.toNat (blks18 p.devs) := if_pos hv
    have := refRefs_good18 p A n c w h hv p.data.toNat (by omega) (by omega) (chk18_few hv) (fun W hW => refCheck_any18 p A n c W (h.below hW) hc)
    rw [e, refs18_length]
    exact this
  · have e : refL18 p = [] := if_neg hv
    rw [e]
    exact (refRefs_bad18 p A n c w h hc hv).mono fun e w' ⟨h1, h2⟩ => ⟨none, 0, h1, Ints.nil _, h2⟩

theorem sq18_start {p q : Pol18} {A A2 : Option Addr} {n c n2 c2 : Nat} {w : World} (h : Dvs w A n c p.devs) (h2 : Dvs w A2 n2 c2 q.devs) : Sq18 w ((w.alloc (.cells #[.int .i64 p.tx, .int .i64 p.time, .int .i64 p.unit, .int .i64 p.data, .slice A n c] 24)).alloc (.cells #[.int .i64 q.tx, .int .i64 q.time, .int .i64 q.unit, .int .i64 q.data, .slice A2 n2 c2] 24)) p A n c q A2 n2 c2 := by
  have b1 := (Below.refl w.heap.size w).alloc (Nat.le_refl _) (.cells #[.int .i64 p.tx, .int .i64 p.time, .int .i64 p.unit, .int .i64 p.data, .slice A n c] 24)
  have h3 := heap_alloc_new w (.cells #[.int .i64 p.tx, .int .i64 p.time, .int .i64 p.unit, .int .i64 p.data, .slice A n c] 24)
  generalize hw1 : w.alloc (.cells #[.int .i64 p.tx, .int .i64 p.time, .int .i64 p.unit, .int .i64 p.data, .slice A n c] 24) = w1 at *
  have s1 : w1.heap.size = w.heap.size + 1 := by rw [← hw1]; simp
  have b2 := (Below.refl w1.heap.size w1).alloc (Nat.le_refl _) (.cells #[.int .i64 q.tx, .int .i64 q.time, .int .i64 q.unit, .int .i64 q.data, .slice A2 n2 c2] 24)
  have h4 := heap_alloc_new w1 (.cells #[.int .i64 q.tx, .int .i64 q.time, .int .i64 q.unit, .int .i64 q.data, .slice A2 n2 c2] 24)
  rw [s1] at h4
  have bb := b1.trans (b2.mono (by omega))
  exact ⟨⟨(b2.block _ (by omega)).trans h3, h.below bb, bb⟩, ⟨h4, h2.below bb, bb⟩⟩
end Go.Proofs.Ytlmpaelcnnnkfaa

/-
  The walk of PoolTells.
-/
namespace Go.Proofs.Ytlmpaelcnnnkfaa
open Go.RowKit
set_option linter.unusedVariables false
set_option linter.unusedSimpArgs false

/-- both pools, and two devices that were found -/
structure Fd18 (w W : World) (p : Pol18) (A : Option Addr) (n c : Nat) (q : Pol18) (A2 : Option Addr) (n2 c2 : Nat) (x : Dev18) (D1 : Nat) (A5 : Option Addr) (m5 c5 : Nat) (D2 : Nat) (A6 : Option Addr) (m6 c6 : Nat) : Prop where
  s : Sq18 w W p A n c q A2 n2 c2
  b1 : DevC W D1 (.int .i64 x.id) (.int .i64 x.tx) (.int .i64 x.made) (.int .i64 x.snap) (.slice A5 m5 c5)
  b2 : DevC W D2 (.int .i64 x.id) (.int .i64 x.tx) (.int .i64 x.made) (.int .i64 x.snap) (.slice A6 m6 c6)
  t1 : Trs W A5 m5 c5 x.maps
  t2 : Trs W A6 m6 c6 x.maps
section
variable {w W W' : World} {p q : Pol18} {A A2 A5 A6 : Option Addr} {n c n2 c2 D1 m5 c5 D2 m6 c6 : Nat} {x : Dev18}
theorem Fd18.later (h : Fd18 w W p A n c q A2 n2 c2 x D1 A5 m5 c5 D2 A6 m6 c6) (hb : Below W.heap.size W W') : Fd18 w W' p A n c q A2 n2 c2 x D1 A5 m5 c5 D2 A6 m6 c6 :=
  ⟨h.s.later hb, (hb.block _ (block_lt h.b1)).trans h.b1, (hb.block _ (block_lt h.b2)).trans h.b2, h.t1.below hb, h.t2.below hb⟩
theorem Fd18.cs (h : Fd18 w W p A n c q A2 n2 c2 x D1 A5 m5 c5 D2 A6 m6 c6) : (W.cell? ⟨w.heap.size, 0, none⟩ = some (.int .i64 p.tx) ∧ W.cell? ⟨w.heap.size, 1, none⟩ = some (.int .i64 p.time) ∧ W.cell? ⟨w.heap.size, 2, none⟩ = some (.int .i64 p.unit) ∧ W.cell? ⟨w.heap.size, 3, none⟩ = some (.int .i64 p.data) ∧ W.cell? ⟨w.heap.size, 4, none⟩ = some (.slice A n c)) ∧ (W.cell? ⟨D1, 0, none⟩ = some (.int .i64 x.id) ∧ W.cell? ⟨D1, 1, none⟩ = some (.int .i64 x.tx) ∧ W.cell? ⟨D1, 2, none⟩ = some (.int .i64 x.made) ∧ W.cell? ⟨D1, 3, none⟩ = some (.int .i64 x.snap) ∧ W.cell? ⟨D1, 4, none⟩ = some (.slice A5 m5 c5)) ∧ W.cell? ⟨D2, 0, none⟩ = some (.int .i64 x.id) ∧ W.cell? ⟨D2, 1, none⟩ = some (.int .i64 x.tx) ∧ W.cell? ⟨D2, 2, none⟩ = some (.int .i64 x.made) ∧ W.cell? ⟨D2, 3, none⟩ = some (.int .i64 x.snap) ∧ W.cell? ⟨D2, 4, none⟩ = some (.slice A6 m6 c6) :=
  ⟨h.s.p.cs, h.b1.cs.1, h.b2.cs.1⟩
end

set_option maxRecDepth 100000 in
set_option maxHeartbeats 6400000 in
theorem pooltells_walk (A : Option Addr) (n c : Nat) (p : Pol18) (A2 : Option Addr) (n2 c2 : Nat) (q : Pol18) (id : Int) (w : World) (h : Dvs w A n c p.devs) (hbd : p.bd) (h2 : Dvs w A2 n2 c2 q.devs) (hbd2 : q.bd) (_hid : -9223372036854775808 ≤ id ∧ id ≤ 9223372036854775807) :
    Calls Try.prog 3 #[polV18 p A n c, polV18 q A2 n2 c2, .int .i64 id] w fun e w' => e = .returned (.bool true) ∧ Below w.heap.size w w' := by
  obtain ⟨W0, hW0⟩ : ∃ W0, w.alloc (.cells #[.int .i64 p.tx, .int .i64 p.time, .int .i64 p.unit, .int .i64 p.data, .slice A n c] 24) = W0 := ⟨_, rfl⟩
  obtain ⟨W1, hW1⟩ : ∃ W1, W0.alloc (.cells #[.int .i64 q.tx, .int .i64 q.time, .int .i64 q.unit, .int .i64 q.data, .slice A2 n2 c2] 24) = W1 := ⟨_, rfl⟩
  have hs0 : W0.heap.size = w.heap.size + 1 := by rw [← hW0]; exact World.size_alloc _ _
  have hS1 : Sq18 w W1 p A n c q A2 n2 c2 := by rw [← hW1, ← hW0]; exact sq18_start h h2
  have FW : Hid (∀ W, Sq18 w W p A n c q A2 n2 c2 → Calls Try.prog 6 #[polV18 p A n c] W fun e w' => e = .returned (.int .i64 (if few18 p = true then 1 else 0)) ∧ Sq18 w w' p A n c q A2 n2 c2) := fun W hS => (Few_any18 p A n c W hS.p.dvs (fun d hd => (hbd.2.2.2.2.1 d hd).2.2.2.2.2)).mono fun e w' ⟨h1, h2⟩ => ⟨h1, hS.later h2⟩
  have FW2 : Hid (∀ W, Sq18 w W p A n c q A2 n2 c2 → Calls Try.prog 6 #[polV18 q A2 n2 c2] W fun e w' => e = .returned (.int .i64 (if few18 q = true then 1 else 0)) ∧ Sq18 w w' p A n c q A2 n2 c2) := fun W hS => (Few_any18 q A2 n2 c2 W hS.q.dvs (fun d hd => (hbd2.2.2.2.2.1 d hd).2.2.2.2.2)).mono fun e w' ⟨h1, h2⟩ => ⟨h1, hS.later h2⟩
  have LV : Hid (∀ W, Sq18 w W p A n c q A2 n2 c2 → Calls Try.prog 7 #[] W fun e w' => e = .returned (.bool true) ∧ Hid (Below w.heap.size w w')) := fun W hS => (lives18_any W).mono fun e w' ⟨h1, h2⟩ => ⟨h1, (hS.later h2).p.bel⟩
  obtain ⟨⟨c0, c1, c2', c3, c4⟩, k0, k1, k2, k3, k4⟩ := hS1.cs
  have HS1 := Lib.hid hS1
  unfold polV18 at FW FW2 ⊢
  cases hf : few18 p with
  | false =>
    rw [hf] at FW
    clear h h2 hbd hbd2 hS1 hf FW2
    go_enter Try.func3, Try.ntmps3
    go_wp2_with (first
      | (go_at_call 6; (with_reducible refine (FW.out _ HS1.out).mono ?_); rintro e w2 ⟨rfl, hS2⟩; have HS2 := Lib.hid hS2; clear hS2)
      | (go_at_call 7; (with_reducible refine (LV.out _ HS2.out).mono ?_); rintro e w3 ⟨rfl, hb3⟩))
    go_ret
    exact ⟨rfl, hb3.out⟩
  | true =>
    rw [hf] at FW
    cases hf2 : few18 q with
    | false =>
      rw [hf2] at FW2
      clear h h2 hbd hbd2 hS1 hf hf2
      go_enter Try.func3, Try.ntmps3
      go_wp2_with (first
        | (go_at_call 6; (with_reducible refine (FW.out _ HS1.out).mono ?_); rintro e w2 ⟨rfl, hS2⟩; have HS2 := Lib.hid hS2; obtain ⟨⟨d0, d1, d2, d3, d4⟩, e0, e1, e2, e3, e4⟩ := hS2.cs; clear hS2)
        | (go_at_call 6; (with_reducible refine (FW2.out _ HS2.out).mono ?_); rintro e w3 ⟨rfl, hS3⟩; have HS3 := Lib.hid hS3; clear hS3)
        | (go_at_call 7; (with_reducible refine (LV.out _ HS3.out).mono ?_); rintro e w4 ⟨rfl, hb4⟩))
      go_ret
      exact ⟨rfl, hb4.out⟩
    | true =>
      rw [hf2] at FW2
      obtain ⟨hf1, hf3⟩ := few18_yes.1 hf
      have hc : cnt18 p.devs ≤ 1000000 := by omega
      have hl := h.len
      have hn : n ≤ 1000000 := by omega
      obtain ⟨r, hr⟩ : ∃ r : Bool, r = true ↔ SamP18 p q := by classical exact ⟨decide (SamP18 p q), by simp⟩
      have CK : Hid (∀ W, Sq18 w W p A n c q A2 n2 c2 → Calls Try.prog 8 #[polV18 p A n c] W fun e w' => e = .returned (.int .i64 (chkE18 p)) ∧ Sq18 w w' p A n c q A2 n2 c2) := fun W hS => (Check_any18 p A n c W hS.p.dvs hc).mono fun e w' ⟨h1, h2⟩ => ⟨h1, hS.later h2⟩
      have RCK : Hid (∀ W, Sq18 w W p A n c q A2 n2 c2 → Calls Try.prog 9 #[polV18 p A n c] W fun e w' => e = .returned (.int .i64 (chkE18 p)) ∧ Sq18 w w' p A n c q A2 n2 c2) := fun W hS => (refCheck_any18 p A n c W hS.p.dvs hc).mono fun e w' ⟨h1, h2⟩ => ⟨h1, hS.later h2⟩
      have SM : Hid (∀ W, Sq18 w W p A n c q A2 n2 c2 → Calls Try.prog 10 #[polV18 p A n c, polV18 q A2 n2 c2] W fun e w' => e = .returned (.bool r) ∧ Sq18 w w' p A n c q A2 n2 c2) := fun W hS => (Same_any18 p q A A2 n c n2 c2 W hS.p.dvs hS.q.dvs r hr).mono fun e w' ⟨h1, h2⟩ => ⟨h1, hS.later h2⟩
      have RSM : Hid (∀ W, Sq18 w W p A n c q A2 n2 c2 → Calls Try.prog 11 #[polV18 p A n c, polV18 q A2 n2 c2] W fun e w' => e = .returned (.bool r) ∧ Sq18 w w' p A n c q A2 n2 c2) := fun W hS => (refPolSame_any18 p q A A2 n c n2 c2 W hS.p.dvs hS.q.dvs r hr).mono fun e w' ⟨h1, h2⟩ => ⟨h1, hS.later h2⟩
      have CT : Hid (∀ W, Sq18 w W p A n c q A2 n2 c2 → Calls Try.prog 12 #[polV18 p A n c] W fun e w' => e = .returned (.int .i64 (cnt18 p.devs : Int)) ∧ Sq18 w w' p A n c q A2 n2 c2) := fun W hS => (Count_any18 p A n c W hS.p.dvs hc).mono fun e w' ⟨h1, h2⟩ => ⟨h1, hS.later h2⟩
      have RCT : Hid (∀ W, Sq18 w W p A n c q A2 n2 c2 → Calls Try.prog 13 #[polV18 p A n c] W fun e w' => e = .returned (.int .i64 (cnt18 p.devs : Int)) ∧ Sq18 w w' p A n c q A2 n2 c2) := fun W hS => (refCount_any18 p A n c W hS.p.dvs hc).mono fun e w' ⟨h1, h2⟩ => ⟨h1, hS.later h2⟩
      have LT : Hid (∀ W, Sq18 w W p A n c q A2 n2 c2 → Calls Try.prog 14 #[polV18 p A n c] W fun e w' => e = .returned (.int .i64 (late18 (times18 p.devs))) ∧ Sq18 w w' p A n c q A2 n2 c2) := fun W hS => (Latest_any18 p A n c W hS.p.dvs).mono fun e w' ⟨h1, h2⟩ => ⟨h1, hS.later h2⟩
      have RLT : Hid (∀ W, Sq18 w W p A n c q A2 n2 c2 → Calls Try.prog 15 #[polV18 p A n c] W fun e w' => e = .returned (.int .i64 (late18 (times18 p.devs))) ∧ Sq18 w w' p A n c q A2 n2 c2) := fun W hS => (refLatest_any18 p A n c W hS.p.dvs).mono fun e w' ⟨h1, h2⟩ => ⟨h1, hS.later h2⟩
      obtain ⟨x, hx⟩ : ∃ x, (find18 p.devs id).getD zero18 = x := ⟨_, rfl⟩
      obtain ⟨fb, hfb⟩ : ∃ fb, (find18 p.devs id).isSome = fb := ⟨_, rfl⟩
      have FD : Hid (∀ W, Sq18 w W p A n c q A2 n2 c2 → Calls Try.prog 16 #[polV18 p A n c, .int .i64 id] W fun e w' => ∃ A5 m5 c5, e = .returned (.tuple #[devV18 x A5 m5 c5, .bool fb]) ∧ Hid (Trs w' A5 m5 c5 x.maps) ∧ Sq18 w w' p A n c q A2 n2 c2) := fun W hS => (Find_any18 p id A n c W hS.p.dvs hc).mono fun e w' ⟨⟨A5, m5, c5, h1, h2⟩, h3⟩ => by
        rw [hx] at h1 h2
        rw [hfb] at h1
        exact ⟨A5, m5, c5, h1, h2, hS.later h3⟩
      have RFD : Hid (∀ W D1 A5 m5 c5, Sq18 w W p A n c q A2 n2 c2 → Hid (DevC W D1 (.int .i64 x.id) (.int .i64 x.tx) (.int .i64 x.made) (.int .i64 x.snap) (.slice A5 m5 c5) ∧ Trs W A5 m5 c5 x.maps) → Calls Try.prog 17 #[polV18 p A n c, .int .i64 id] W fun e w' => ∃ A6 m6 c6, e = .returned (.tuple #[devV18 x A6 m6 c6, .bool fb]) ∧ Hid (Trs w' A6 m6 c6 x.maps) ∧ Sq18 w w' p A n c q A2 n2 c2 ∧ Hid (DevC w' D1 (.int .i64 x.id) (.int .i64 x.tx) (.int .i64 x.made) (.int .i64 x.snap) (.slice A5 m5 c5) ∧ Trs w' A5 m5 c5 x.maps)) := fun W D1 A5 m5 c5 hS hd => (refFind_any18 p id A n c W hS.p.dvs).mono fun e w' ⟨⟨A6, m6, c6, h1, h2⟩, h3⟩ => by
        rw [hx] at h1 h2
        rw [hfb] at h1
        exact ⟨A6, m6, c6, h1, h2, hS.later h3, (h3.block _ (block_lt hd.out.1)).trans hd.out.1, hd.out.2.below h3⟩
      have RF : Hid (∀ W D1 A5 m5 c5 D2 A6 m6 c6, Fd18 w W p A n c q A2 n2 c2 x D1 A5 m5 c5 D2 A6 m6 c6 → Calls Try.prog 19 #[polV18 p A n c] W fun e w' => ∃ A7 c7, e = .returned (.slice A7 (refL18 p).length c7) ∧ Hid (Ints w' A7 (refL18 p).length c7 (refL18 p)) ∧ Fd18 w w' p A n c q A2 n2 c2 x D1 A5 m5 c5 D2 A6 m6 c6) := fun W D1 A5 m5 c5 D2 A6 m6 c6 hS => (Refs_any18 p A n c W hS.s.p.dvs hc).mono fun e w' ⟨A', c', h1, h2, h3⟩ => ⟨A', c', h1, h2, hS.later h3⟩
      have RRF : Hid (∀ W D1 A5 m5 c5 D2 A6 m6 c6 A7 c7, Fd18 w W p A n c q A2 n2 c2 x D1 A5 m5 c5 D2 A6 m6 c6 → Hid (Ints W A7 (refL18 p).length c7 (refL18 p)) → Calls Try.prog 20 #[polV18 p A n c] W fun e w' => ∃ A8 c8, e = .returned (.slice A8 (refL18 p).length c8) ∧ Hid (Ints w' A7 (refL18 p).length c7 (refL18 p)) ∧ Hid (Ints w' A8 (refL18 p).length c8 (refL18 p)) ∧ Fd18 w w' p A n c q A2 n2 c2 x D1 A5 m5 c5 D2 A6 m6 c6) := fun W D1 A5 m5 c5 D2 A6 m6 c6 A7 c7 hS hI => (refRefs_any18 p A n c W hS.s.p.dvs hc).mono fun e w' ⟨A', c', h1, h2, h3⟩ => ⟨A', c', h1, hI.out.below h3, h2, hS.later h3⟩
      have SMI : Hid (∀ W D1 A5 m5 c5 D2 A6 m6 c6 A7 A8 (k : Nat) c7 c8 (l : List Int), Fd18 w W p A n c q A2 n2 c2 x D1 A5 m5 c5 D2 A6 m6 c6 → Hid (Ints W A7 k c7 l) → Hid (Ints W A8 k c8 l) → Calls Try.prog 18 #[.slice A7 k c7, .slice A8 k c8] W fun e w' => e = .returned (.bool true) ∧ Fd18 w w' p A n c q A2 n2 c2 x D1 A5 m5 c5 D2 A6 m6 c6) := fun W D1 A5 m5 c5 D2 A6 m6 c6 A7 A8 k c7 c8 l hS h1 h2 => (Same_same A7 A8 k c7 c8 l W h1.out h2.out).mono fun e w' ⟨h1, h3⟩ => ⟨h1, hS.later h3⟩
      have SD : Hid (∀ W D1 A5 m5 c5 D2 A6 m6 c6, Fd18 w W p A n c q A2 n2 c2 x D1 A5 m5 c5 D2 A6 m6 c6 → Calls Try.prog 21 #[devV18 x A5 m5 c5, devV18 x A6 m6 c6] W fun e w' => e = .returned (.bool true) ∧ Fd18 w w' p A n c q A2 n2 c2 x D1 A5 m5 c5 D2 A6 m6 c6) := fun W D1 A5 m5 c5 D2 A6 m6 c6 hS => (refSameDevice_any18 x x A5 A6 m5 c5 m6 c6 W hS.t1 hS.t2 true (decide_eq_true ⟨rfl, rfl, rfl, rfl, rfl⟩)).mono fun e w' ⟨h1, h3⟩ => ⟨h1, hS.later h3⟩
      have CP : Hid (∀ W D1 A5 m5 c5 D2 A6 m6 c6, Fd18 w W p A n c q A2 n2 c2 x D1 A5 m5 c5 D2 A6 m6 c6 → Calls Try.prog 22 #[polV18 p A n c] W fun e w' => ∃ A9 c9, e = .returned (polV18 p A9 n c9) ∧ Hid (Dvs w' A9 n c9 p.devs) ∧ Fd18 w w' p A n c q A2 n2 c2 x D1 A5 m5 c5 D2 A6 m6 c6) := fun W D1 A5 m5 c5 D2 A6 m6 c6 hS => (Copy_any18 p A n c W hS.s.p.dvs hn hc).mono fun e w' ⟨A', c', LL, h1, h2, h3, h4⟩ => ⟨A', c', h1, h3 ▸ h2.dvs, hS.later h4⟩
      have RSP : Hid (∀ W D1 A5 m5 c5 D2 A6 m6 c6 A9 c9, Fd18 w W p A n c q A2 n2 c2 x D1 A5 m5 c5 D2 A6 m6 c6 → Hid (Dvs W A9 n c9 p.devs) → Calls Try.prog 11 #[polV18 p A9 n c9, polV18 p A n c] W fun e w' => e = .returned (.bool true) ∧ Fd18 w w' p A n c q A2 n2 c2 x D1 A5 m5 c5 D2 A6 m6 c6) := fun W D1 A5 m5 c5 D2 A6 m6 c6 A9 c9 hS hD => (refPolSame_any18 p p A9 A n c9 n c W hD.out hS.s.p.dvs true (by simp [SamP18])).mono fun e w' ⟨h1, h3⟩ => ⟨h1, hS.later h3⟩
      have LVF : Hid (∀ W D1 A5 m5 c5 D2 A6 m6 c6, Fd18 w W p A n c q A2 n2 c2 x D1 A5 m5 c5 D2 A6 m6 c6 → Calls Try.prog 7 #[] W fun e w' => e = .returned (.bool true) ∧ Fd18 w w' p A n c q A2 n2 c2 x D1 A5 m5 c5 D2 A6 m6 c6) := fun W D1 A5 m5 c5 D2 A6 m6 c6 hS => (lives18_any W).mono fun e w' ⟨h1, h3⟩ => ⟨h1, hS.later h3⟩
      unfold polV18 at CK RCK SM RSM CT RCT LT RLT FD RFD RF RRF CP RSP
      unfold devV18 at FD RFD SD
      clear h h2 hbd hbd2 hS1 hf hf2 hf1 hf3 hc hl hn hr hx hfb LV
      generalize refL18 p = L at *
      generalize L.length = kL at *
      generalize chkE18 p = y at *
      generalize late18 (times18 p.devs) = la at *
      generalize cnt18 p.devs = cn at *
      go_enter Try.func3, Try.ntmps3
      go_wp2_with (first
        | (go_at_call 6; (with_reducible refine (FW.out _ HS1.out).mono ?_); rintro e w2 ⟨rfl, hS2⟩; have HS2 := Lib.hid hS2; obtain ⟨⟨d0, d1, d2, d3, d4⟩, e0, e1, e2, e3, e4⟩ := hS2.cs; clear hS2)
        | (go_at_call 6; (with_reducible refine (FW2.out _ HS2.out).mono ?_); rintro e w3 ⟨rfl, hS3⟩; have d3 := hS3.cs))
      clear FW FW2 HS2 HS1 d0 d1 d2 d3 d4 e0 e1 e2 e3 e4 c0 c1 c2' c3 c4 k0 k1 k2 k3 k4
      have d3 := hS3.cs
      go_region_held3 (fun W => (W.cell? ⟨w.heap.size, 0, none⟩ = some (.int .i64 p.tx) ∧ W.cell? ⟨w.heap.size, 1, none⟩ = some (.int .i64 p.time) ∧ W.cell? ⟨w.heap.size, 2, none⟩ = some (.int .i64 p.unit) ∧ W.cell? ⟨w.heap.size, 3, none⟩ = some (.int .i64 p.data) ∧ W.cell? ⟨w.heap.size, 4, none⟩ = some (.slice A n c)) ∧ W.cell? ⟨w.heap.size + 1, 0, none⟩ = some (.int .i64 q.tx) ∧ W.cell? ⟨w.heap.size + 1, 1, none⟩ = some (.int .i64 q.time) ∧ W.cell? ⟨w.heap.size + 1, 2, none⟩ = some (.int .i64 q.unit) ∧ W.cell? ⟨w.heap.size + 1, 3, none⟩ = some (.int .i64 q.data) ∧ W.cell? ⟨w.heap.size + 1, 4, none⟩ = some (.slice A2 n2 c2))
        (assumption)
        (first
        | (go_at_call 8; (with_reducible refine (CK.out _ (hS3.later (Below.refl _ _).drew)).mono ?_); rintro e w4 ⟨rfl, hS4⟩; have d4 := hS4.cs)
        | (go_at_call 9; (with_reducible refine (RCK.out _ hS4).mono ?_); rintro e w5 ⟨rfl, hS5⟩; have d5 := hS5.cs)
        | (go_at_call 10; (with_reducible refine (SM.out _ hS5).mono ?_); rintro e w6 ⟨rfl, hS6⟩; have d6 := hS6.cs)
        | (go_at_call 11; (with_reducible refine (RSM.out _ hS6).mono ?_); rintro e w7 ⟨rfl, hS7⟩; have d7 := hS7.cs)
        | (go_at_call 12; (with_reducible refine (CT.out _ hS7).mono ?_); rintro e w8 ⟨rfl, hS8⟩; have d8 := hS8.cs)
        | (go_at_call 13; (with_reducible refine (RCT.out _ hS8).mono ?_); rintro e w9 ⟨rfl, hS9⟩; have d9 := hS9.cs)
        | (go_at_call 14; (with_reducible refine (LT.out _ hS9).mono ?_); rintro e w10 ⟨rfl, hS10⟩; have d10 := hS10.cs)
        | (go_at_call 15; (with_reducible refine (RLT.out _ hS10).mono ?_); rintro e w11 ⟨rfl, hS11⟩; have d11 := hS11.cs))
      clear CK RCK SM RSM CT RCT LT RLT hS3 hS4 hS5 hS6 hS7 hS8 hS9 hS10 d3 d4 d5 d6 d7 d8 d9 d10
      obtain ⟨⟨e0, e1, e2, e3, e4⟩, _⟩ := d11
      go_wp2_with (first
        | (go_at_call 16; (with_reducible refine (FD.out _ hS11).mono ?_); rintro e w12 ⟨A5, m5, c5, rfl, hT5, hS12⟩; have hal5 := (Below.refl w12.heap.size w12).alloc (Nat.le_refl _) (.cells #[.int .i64 x.id, .int .i64 x.tx, .int .i64 x.made, .int .i64 x.snap, .slice A5 m5 c5] 32); have hS13 := hS12.later hal5; have HD13 : Hid (DevC (w12.alloc (.cells #[.int .i64 x.id, .int .i64 x.tx, .int .i64 x.made, .int .i64 x.snap, .slice A5 m5 c5] 32)) w12.heap.size (.int .i64 x.id) (.int .i64 x.tx) (.int .i64 x.made) (.int .i64 x.snap) (.slice A5 m5 c5) ∧ Trs (w12.alloc (.cells #[.int .i64 x.id, .int .i64 x.tx, .int .i64 x.made, .int .i64 x.snap, .slice A5 m5 c5] 32)) A5 m5 c5 x.maps) := ⟨heap_alloc_new w12 _, hT5.out.below hal5⟩; obtain ⟨⟨f0, f1, f2, f3, f4⟩, _⟩ := hS13.cs; have HS13 := Lib.hid hS13; clear hal5 hS13)
        | (go_at_call 17; (with_reducible refine (RFD.out _ _ _ _ _ HS13.out HD13).mono ?_); rintro e w14 ⟨A6, m6, c6, rfl, hT6, hS14, hD14⟩; have hal6 := (Below.refl w14.heap.size w14).alloc (Nat.le_refl _) (.cells #[.int .i64 x.id, .int .i64 x.tx, .int .i64 x.made, .int .i64 x.snap, .slice A6 m6 c6] 32); have hF15 : Fd18 w (w14.alloc (.cells #[.int .i64 x.id, .int .i64 x.tx, .int .i64 x.made, .int .i64 x.snap, .slice A6 m6 c6] 32)) p A n c q A2 n2 c2 x w12.heap.size A5 m5 c5 w14.heap.size A6 m6 c6 := ⟨hS14.later hal6, (hal6.block _ (block_lt hD14.out.1)).trans hD14.out.1, heap_alloc_new w14 _, hD14.out.2.below hal6, hT6.out.below hal6⟩; clear hal6))
      have d15 := hF15.cs
      clear FD RFD HS13 HD13 hT5 hT6 hS12 hS14 hD14 e0 e1 e2 e3 e4 f0 f1 f2 f3 f4 hS11
      generalize w12.heap.size = D1 at *
      generalize hD2 : w14.heap.size = D2 at *
      generalize w14.alloc (.cells #[.int .i64 x.id, .int .i64 x.tx, .int .i64 x.made, .int .i64 x.snap, .slice A6 m6 c6] 32) = w15 at *
      go_region_held3 (fun W => (W.cell? ⟨w.heap.size, 0, none⟩ = some (.int .i64 p.tx) ∧ W.cell? ⟨w.heap.size, 1, none⟩ = some (.int .i64 p.time) ∧ W.cell? ⟨w.heap.size, 2, none⟩ = some (.int .i64 p.unit) ∧ W.cell? ⟨w.heap.size, 3, none⟩ = some (.int .i64 p.data) ∧ W.cell? ⟨w.heap.size, 4, none⟩ = some (.slice A n c)) ∧ (W.cell? ⟨D1, 0, none⟩ = some (.int .i64 x.id) ∧ W.cell? ⟨D1, 1, none⟩ = some (.int .i64 x.tx) ∧ W.cell? ⟨D1, 2, none⟩ = some (.int .i64 x.made) ∧ W.cell? ⟨D1, 3, none⟩ = some (.int .i64 x.snap) ∧ W.cell? ⟨D1, 4, none⟩ = some (.slice A5 m5 c5)) ∧ W.cell? ⟨D2, 0, none⟩ = some (.int .i64 x.id) ∧ W.cell? ⟨D2, 1, none⟩ = some (.int .i64 x.tx) ∧ W.cell? ⟨D2, 2, none⟩ = some (.int .i64 x.made) ∧ W.cell? ⟨D2, 3, none⟩ = some (.int .i64 x.snap) ∧ W.cell? ⟨D2, 4, none⟩ = some (.slice A6 m6 c6))
        (assumption)
        (first
        | (go_at_call 19; (with_reducible refine (RF.out _ _ _ _ _ _ _ _ _ (hF15.later (Below.refl _ _).drew)).mono ?_); rintro e w16 ⟨A7, c7, rfl, hI7, hF16⟩; have d16 := hF16.cs)
        | (go_at_call 20; (with_reducible refine (RRF.out _ _ _ _ _ _ _ _ _ _ _ hF16 hI7).mono ?_); rintro e w17 ⟨A8, c8, rfl, hI7b, hI8, hF17⟩; have d17 := hF17.cs)
        | (go_at_call 18; (with_reducible refine (SMI.out _ _ _ _ _ _ _ _ _ _ _ _ _ _ _ hF17 hI7b hI8).mono ?_); rintro e w18 ⟨rfl, hF18⟩; have d18 := hF18.cs)
        | (go_at_call 21; (with_reducible refine (SD.out _ _ _ _ _ _ _ _ _ hF18).mono ?_); rintro e w19 ⟨rfl, hF19⟩; have d19 := hF19.cs)
        | (go_at_call 22; (with_reducible refine (CP.out _ _ _ _ _ _ _ _ _ hF19).mono ?_); rintro e w20 ⟨A9, c9, rfl, hD20, hF20⟩; have d20 := hF20.cs)
        | (go_at_call 11; (with_reducible refine (RSP.out _ _ _ _ _ _ _ _ _ _ _ hF20 hD20).mono ?_); rintro e w21 ⟨rfl, hF21⟩; have d21 := hF21.cs)
        | (go_at_call 7; (with_reducible refine (LVF.out _ _ _ _ _ _ _ _ _ hF21).mono ?_); rintro e w22 ⟨rfl, hF22⟩; have d22 := hF22.cs))
      go_wp2
      go_ret
      exact ⟨rfl, hF22.s.p.bel⟩
end Go.Proofs.Ytlmpaelcnnnkfaa
