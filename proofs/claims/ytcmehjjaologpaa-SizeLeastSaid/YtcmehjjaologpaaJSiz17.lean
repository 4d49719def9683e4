/-
  Joined: PolR, PgA, PolT, PolW.
-/
import Derived.Test.YtcmehjjaologpaaJSiz16
import Derived.Test.YtcmehjjaologpaaJSiz05
/-
  Layer 18: the reference's Count, Latest.
-/
namespace Go.Proofs.Ytcmehjjaologpaa
open Go.RowKit
set_option linter.unusedVariables false
set_option linter.unusedSimpArgs false

/-- device k of a slice, where it lies -/
theorem Dvs.at18 {w : World} {A : Option Addr} {n c : Nat} {l : List Dev18} (h : Dvs w A n c l) {k : Nat} (hk : k < n) :
    ∃ b off A' m c', A = some ⟨b, off, none⟩ ∧ b < w.heap.size ∧ w.cell? ⟨b, off + k * 5, none⟩ = some (.int .i64 (l.getD k zero18).id) ∧ w.cell? ⟨b, off + k * 5 + 1, none⟩ = some (.int .i64 (l.getD k zero18).tx) ∧ w.cell? ⟨b, off + k * 5 + 2, none⟩ = some (.int .i64 (l.getD k zero18).made) ∧ w.cell? ⟨b, off + k * 5 + 3, none⟩ = some (.int .i64 (l.getD k zero18).snap) ∧ w.cell? ⟨b, off + k * 5 + 4, none⟩ = some (.slice A' m c') ∧ Trs w A' m c' (l.getD k zero18).maps := by
  obtain ⟨b, off, e, hb, hc⟩ := h.lit (by omega)
  have hkl : k < l.length := by have := h.len; omega
  obtain ⟨A', m, c', h0, h1, h2, h3, h4, h5⟩ := hc k hkl
  rw [getD18 hkl]
  exact ⟨b, off, A', m, c', e, hb, h0, h1, h2, h3, h4, h5⟩
/-- mapping k of a slice, where it lies -/
theorem trs_at18 {w : World} {A : Option Addr} {n c : Nat} {l : List (Int × Int × Int)} (h : Trs w A n c l) {k : Nat} (hk : k < n) : ∃ b off x0 x1 x2, A = some ⟨b, off, none⟩ ∧ b < w.heap.size ∧ l.getD k (0, 0, 0) = (x0, x1, x2) ∧ k < l.length ∧ w.cell? ⟨b, off + k * 3, none⟩ = some (.int .i64 x0) ∧ w.cell? ⟨b, off + k * 3 + 1, none⟩ = some (.int .i64 x1) ∧ w.cell? ⟨b, off + k * 3 + 2, none⟩ = some (.int .i64 x2) := by
  obtain ⟨b, off, rfl, hb, hc⟩ := h.lit (by omega)
  have hkl : k < l.length := by have := h.len; omega
  obtain ⟨h0, h1, h2⟩ := hc k hkl
  rw [getD18 hkl]
  exact ⟨b, off, _, _, _, rfl, hb, rfl, hkl, h0, h1, h2⟩
/-- a pool as a value -/
def polV18 (p : Pol18) (A : Option Addr) (n c : Nat) : Value := .agg #[.int .i64 p.tx, .int .i64 p.time, .int .i64 p.unit, .int .i64 p.data, .slice A n c]

set_option maxRecDepth 100000 in
set_option maxHeartbeats 400000 in
theorem refIn_any18 (n lo hi : Int) (w : World) : Calls Try.prog 31 #[.int .i64 n, .int .i64 lo, .int .i64 hi] w fun e w' => e = .returned (.bool (in18 n lo hi)) ∧ w = w' := by
  by_cases h1 : lo ≤ n
  · by_cases h2 : n ≤ hi
    · have hr : in18 n lo hi = true := by simp [in18, h1, h2]
      rw [hr]
      clear hr
      go_enter Try.func31, Try.ntmps31
      go_wp2
      go_ret
      exact ⟨rfl, rfl⟩
    · have hr : in18 n lo hi = false := by simp [in18, h2]
      rw [hr]
      clear hr
      go_enter Try.func31, Try.ntmps31
      go_wp2
      go_ret
      exact ⟨rfl, rfl⟩
  · have hr : in18 n lo hi = false := by simp [in18, h1]
    rw [hr]
    clear hr
    go_enter Try.func31, Try.ntmps31
    go_wp2
    go_ret
    exact ⟨rfl, rfl⟩

set_option maxRecDepth 100000 in
set_option maxHeartbeats 800000 in
theorem refCount_any18 (p : Pol18) (A : Option Addr) (n c : Nat) (w : World) (h : Dvs w A n c p.devs) (hc : cnt18 p.devs ≤ 1000000) :
    Calls Try.prog 32 #[polV18 p A n c] w fun e w' => e = .returned (.int .i64 (cnt18 p.devs : Int)) ∧ Below w.heap.size w w' := by
  have hle : n ≤ 9223372036854775807 := Nat.le_trans h.cap h.most
  have hl := h.len
  obtain ⟨W0, hW0⟩ : ∃ W0, w.alloc (.cells #[.int .i64 p.tx, .int .i64 p.time, .int .i64 p.unit, .int .i64 p.data, .slice A n c] 24) = W0 := ⟨_, rfl⟩
  have hb0 : Below w.heap.size w W0 := by rw [← hW0]; exact (Below.refl _ _).alloc (Nat.le_refl _) _
  have hR0 : W0.heap[w.heap.size]? = some (Obj.cells #[.int .i64 p.tx, .int .i64 p.time, .int .i64 p.unit, .int .i64 p.data, .slice A n c] 24 (0, 0)) := by rw [← hW0]; exact heap_alloc_new w _
  have h4 : W0.cell? ⟨w.heap.size, 4, none⟩ = some (.slice A n c) := by rw [cell_of_row W0 w.heap.size 4 _ _ _ hR0]; rfl
  have HD : Hid (∀ k, k < n → ∃ b off A' m c', A = some ⟨b, off, none⟩ ∧ W0.cell? ⟨b, off + k * 5 + 4, none⟩ = some (.slice A' m c') ∧ m = (p.devs.getD k zero18).maps.length) := fun k hk => by
    obtain ⟨b, off, A', m, c', e, hb, _, _, _, _, g4, hT⟩ := h.at18 hk
    exact ⟨b, off, A', m, c', e, (hb0.cell hb).trans g4, hT.len.symm⟩
  have ST := Lib.hid (fun (k : Nat) (hk : k < n) => cnt18_take (ds := p.devs) (k := k) (by omega))
  have SL := Lib.hid (fun (k : Nat) => cnt18_le (ds := p.devs) k)
  have SA : Hid (cnt18 (p.devs.take n) = cnt18 p.devs) := by rw [List.take_of_length_le (by omega)]; exact Lib.hid rfl
  have HB := Lib.hid hb0
  have S0 : Hid (cnt18 (p.devs.take 0) = 0) := Lib.hid rfl
  clear h hb0 hR0
  unfold polV18
  generalize p.tx = v0 at *
  generalize p.time = v1 at *
  generalize p.unit = v2 at *
  generalize p.data = v3 at *
  generalize p.devs = ds at *
  go_enter Try.func32, Try.ntmps32
  go_wp2
  go_loopw [3, 4] (fun v i wr => ∃ (k : Nat), k ≤ n ∧ i = .int .i64 k ∧ v = .int .i64 (cnt18 (ds.take k) : Int) ∧ wr = W0) (fun _ i _ => n - (intOf i).toNat)
  case atStart => exact ⟨0, by omega, rfl, by rw [S0.out]; rfl, rfl⟩
  case round =>
    obtain ⟨k, hk, rfl, rfl, rfl⟩ := hrel
    by_cases hlt : k < n
    · obtain ⟨b, off, A', m, c', rfl, g4, hm⟩ := HD.out k hlt
      have hst := ST.out k hlt
      rw [← hm] at hst
      have h1 := SL.out (k + 1)
      have h2 := SL.out k
      rw [hst] at h1
      have HST := Lib.hid hst
      clear hst hm
      generalize cnt18 (ds.take k) = x at *
      go_wp2
      go_roundw
      all_goals first
        | exact ⟨k + 1, by omega, by push_cast; rfl, by rw [HST.out]; push_cast; rfl, trivial⟩
        | (simp only [intOf]; omega)
    · obtain rfl : k = n := by omega
      have HX := Lib.hid SA.out
      generalize cnt18 (ds.take k) = x at *
      go_wp2
      go_ret
      exact ⟨by rw [← HX.out]; rfl, HB.out⟩
end Go.Proofs.Ytcmehjjaologpaa

/-
  Layer 18: within, Count, bounded.
-/
namespace Go.Proofs.Ytcmehjjaologpaa
open Go.RowKit
set_option linter.unusedVariables false
set_option linter.unusedSimpArgs false

set_option maxRecDepth 100000 in
set_option maxHeartbeats 400000 in
theorem within_any18 (n lo hi : Int) (w : World) : Calls Try.prog 34 #[.int .i64 n, .int .i64 lo, .int .i64 hi] w fun e w' => e = .returned (.bool (in18 n lo hi)) ∧ w = w' := by
  by_cases h1 : lo ≤ n
  · by_cases h2 : n ≤ hi
    · have hr : in18 n lo hi = true := by simp [in18, h1, h2]
      rw [hr]
      clear hr
      go_enter Try.func34, Try.ntmps34
      go_wp2
      go_ret
      exact ⟨rfl, rfl⟩
    · have hr : in18 n lo hi = false := by simp [in18, h2]
      rw [hr]
      clear hr
      go_enter Try.func34, Try.ntmps34
      go_wp2
      go_ret
      exact ⟨rfl, rfl⟩
  · have hr : in18 n lo hi = false := by simp [in18, h1]
    rw [hr]
    clear hr
    go_enter Try.func34, Try.ntmps34
    go_wp2
    go_ret
    exact ⟨rfl, rfl⟩

set_option maxRecDepth 100000 in
set_option maxHeartbeats 1600000 in
theorem Count_any18 (p : Pol18) (A : Option Addr) (n c : Nat) (w : World) (h : Dvs w A n c p.devs) (hc : cnt18 p.devs ≤ 1000000) :
    Calls Try.prog 35 #[polV18 p A n c] w fun e w' => e = .returned (.int .i64 (cnt18 p.devs : Int)) ∧ Below w.heap.size w w' := by
  have hle : n ≤ 9223372036854775807 := Nat.le_trans h.cap h.most
  have hl := h.len
  obtain ⟨W0, hW0⟩ : ∃ W0, w.alloc (.cells #[.int .i64 p.tx, .int .i64 p.time, .int .i64 p.unit, .int .i64 p.data, .slice A n c] 24) = W0 := ⟨_, rfl⟩
  have hb0 : Below w.heap.size w W0 := by rw [← hW0]; exact (Below.refl _ _).alloc (Nat.le_refl _) _
  have hR0 : W0.heap[w.heap.size]? = some (Obj.cells #[.int .i64 p.tx, .int .i64 p.time, .int .i64 p.unit, .int .i64 p.data, .slice A n c] 24 (0, 0)) := by rw [← hW0]; exact heap_alloc_new w _
  have h4 : W0.cell? ⟨w.heap.size, 4, none⟩ = some (.slice A n c) := by rw [cell_of_row W0 w.heap.size 4 _ _ _ hR0]; rfl
  have HD := Lib.hid h
  have ST := Lib.hid (fun (k : Nat) (hk : k < n) => cnt18_take (ds := p.devs) (k := k) (by omega))
  have SL := Lib.hid (fun (k : Nat) => cnt18_le (ds := p.devs) k)
  have SA : Hid (cnt18 (p.devs.take n) = cnt18 p.devs) := by rw [List.take_of_length_le (by omega)]; exact Lib.hid rfl
  have HB := Lib.hid hb0
  have S0 : Hid (cnt18 (p.devs.take 0) = 0) := Lib.hid rfl
  clear h hb0 hR0
  unfold polV18
  generalize p.tx = v0 at *
  generalize p.time = v1 at *
  generalize p.unit = v2 at *
  generalize p.data = v3 at *
  generalize p.devs = ds at *
  go_enter Try.func35, Try.ntmps35
  go_wp2
  go_loopw [3, 9] (fun v i wr => ∃ (k : Nat), k ≤ n ∧ i = .int .i64 k ∧ v = .int .i64 (cnt18 (ds.take k) : Int) ∧ Hid (Below w.heap.size w wr)) (fun _ i _ => n - (intOf i).toNat)
  case atStart => exact ⟨0, by omega, rfl, by rw [S0.out]; rfl, HB.out⟩
  case round =>
    obtain ⟨k, hk, rfl, rfl, hbel⟩ := hrel
    by_cases hlt : k < n
    · obtain ⟨b, off, A', m, c', rfl, hb, d0, d1, d2, d3, d4, hT⟩ := HD.out.at18 hlt
      have g0 := (hbel.out.cell (p := ⟨b, off + k * 5, none⟩) hb).trans d0
      have g1 := (hbel.out.cell (p := ⟨b, off + k * 5 + 1, none⟩) hb).trans d1
      have g2 := (hbel.out.cell (p := ⟨b, off + k * 5 + 2, none⟩) hb).trans d2
      have g3 := (hbel.out.cell (p := ⟨b, off + k * 5 + 3, none⟩) hb).trans d3
      have g4 := (hbel.out.cell (p := ⟨b, off + k * 5 + 4, none⟩) hb).trans d4
      have hst := ST.out k hlt
      rw [← hT.len.symm] at hst
      have h1 := SL.out (k + 1)
      have h2 := SL.out k
      rw [hst] at h1
      have HST := Lib.hid hst
      have HBN := fun o => Lib.hid (hbel.out.alloc hbel.out.size o)
      clear hst d0 d1 d2 d3 d4 hT
      generalize cnt18 (ds.take k) = x at *
      generalize (ds.getD k zero18) = d at *
      go_wp2
      go_roundw
      all_goals first
        | exact ⟨k + 1, by omega, by push_cast; rfl, by rw [HST.out]; push_cast; rfl, HBN _⟩
        | (simp only [intOf]; omega)
    · obtain rfl : k = n := by omega
      have HX := Lib.hid SA.out
      generalize cnt18 (ds.take k) = x at *
      go_wp2
      go_ret
      exact ⟨by rw [← HX.out]; rfl, hbel.out⟩

set_option maxRecDepth 100000 in
set_option maxHeartbeats 1600000 in
theorem bounded_any18 (p : Pol18) (A : Option Addr) (n c : Nat) (w : World) (hd : Dvs w A n c p.devs) (hc : cnt18 p.devs ≤ 1000000) (r : Bool) (hr : r = (headR18 p && decide (n ≤ 4096) && decide (cnt18 p.devs ≤ 16384))) :
    Calls Try.prog 25 #[polV18 p A n c] w fun e w' => e = .returned (.bool r) ∧ Below w.heap.size w w' := by
  have hle : n ≤ 9223372036854775807 := Nat.le_trans hd.cap hd.most
  obtain ⟨W0, hW0⟩ : ∃ W0, w.alloc (.cells #[.int .i64 p.tx, .int .i64 p.time, .int .i64 p.unit, .int .i64 p.data, .slice A n c] 24) = W0 := ⟨_, rfl⟩
  have hb0 : Below w.heap.size w W0 := by rw [← hW0]; exact (Below.refl _ _).alloc (Nat.le_refl _) _
  have hR0 : W0.heap[w.heap.size]? = some (Obj.cells #[.int .i64 p.tx, .int .i64 p.time, .int .i64 p.unit, .int .i64 p.data, .slice A n c] 24 (0, 0)) := by rw [← hW0]; exact heap_alloc_new w _
  have c0 : W0.cell? ⟨w.heap.size, 0, none⟩ = some (.int .i64 p.tx) := by rw [cell_of_row W0 w.heap.size 0 _ _ _ hR0]; rfl
  have c1 : W0.cell? ⟨w.heap.size, 1, none⟩ = some (.int .i64 p.time) := by rw [cell_of_row W0 w.heap.size 1 _ _ _ hR0]; rfl
  have c2 : W0.cell? ⟨w.heap.size, 2, none⟩ = some (.int .i64 p.unit) := by rw [cell_of_row W0 w.heap.size 2 _ _ _ hR0]; rfl
  have c3 : W0.cell? ⟨w.heap.size, 3, none⟩ = some (.int .i64 p.data) := by rw [cell_of_row W0 w.heap.size 3 _ _ _ hR0]; rfl
  have c4 : W0.cell? ⟨w.heap.size, 4, none⟩ = some (.slice A n c) := by rw [cell_of_row W0 w.heap.size 4 _ _ _ hR0]; rfl
  have HB := Lib.hid hb0
  have hl := hd.len
  have CT := Lib.hid (Count_any18 p A n c W0 (hd.below hb0) hc)
  unfold polV18 at CT
  have I0 := Lib.hid (fun W => within_any18 p.tx 0 2147483647 W)
  have I1 := Lib.hid (fun W => within_any18 p.time 0 16777215 W)
  have I2 := Lib.hid (fun W => within_any18 p.unit 1 65536 W)
  have I3 := Lib.hid (fun W => within_any18 p.data 0 65536 W)
  unfold headR18 at hr
  clear hb0 hR0 hd
  unfold polV18
  generalize cnt18 p.devs = x at *
  generalize in18 p.tx 0 2147483647 = r0 at *
  generalize in18 p.time 0 16777215 = r1 at *
  generalize in18 p.unit 1 65536 = r2 at *
  generalize in18 p.data 0 65536 = r3 at *
  generalize p.tx = v0 at *
  generalize p.time = v1 at *
  generalize p.unit = v2 at *
  generalize p.data = v3 at *
  by_cases hn : n ≤ 4096
  · by_cases hx : x ≤ 16384
    · simp only [hn, hx, decide_true, Bool.and_true] at hr
      have hxI : decide ((x : Int) ≤ 16384) = true := by rw [decide_eq_true_eq]; omega
      cases r0 <;> cases r1 <;> cases r2 <;> cases r3
      all_goals
        simp only [Bool.and_true, Bool.and_false, Bool.and_self] at hr
        subst hr
        go_enter Try.func25, Try.ntmps25
        go_wp2_with (first
          | (go_at_call 35; (with_reducible refine (CT.out).mono ?_); rintro e w3 ⟨rfl, hb3⟩; have HB3 := Lib.hid (HB.out.trans (hb3.mono HB.out.size)); clear hb3)
          | (go_at_call 34; (first
             | (with_reducible refine (I0.out _).mono ?_)
             | (with_reducible refine (I1.out _).mono ?_)
             | (with_reducible refine (I2.out _).mono ?_)
             | (with_reducible refine (I3.out _).mono ?_)); rintro e w' ⟨rfl, rfl⟩))
        go_ret
        first
          | exact ⟨rfl, HB3.out⟩
          | exact ⟨rfl, HB.out⟩
    · have hx2 : decide (x ≤ 16384) = false := by simpa using hx
      rw [hx2, Bool.and_false] at hr
      subst hr
      have hxI : decide ((x : Int) ≤ 16384) = false := by rw [decide_eq_false_iff_not]; omega
      clear hx2
      cases r0 <;> cases r1 <;> cases r2 <;> cases r3
      all_goals
        go_enter Try.func25, Try.ntmps25
        go_wp2_with (first
          | (go_at_call 35; (with_reducible refine (CT.out).mono ?_); rintro e w3 ⟨rfl, hb3⟩; have HB3 := Lib.hid (HB.out.trans (hb3.mono HB.out.size)); clear hb3)
          | (go_at_call 34; (first
             | (with_reducible refine (I0.out _).mono ?_)
             | (with_reducible refine (I1.out _).mono ?_)
             | (with_reducible refine (I2.out _).mono ?_)
             | (with_reducible refine (I3.out _).mono ?_)); rintro e w' ⟨rfl, rfl⟩))
        go_ret
        first
          | exact ⟨rfl, HB3.out⟩
          | exact ⟨rfl, HB.out⟩
  · have hn2 : decide (n ≤ 4096) = false := by simpa using hn
    rw [hn2, Bool.and_false, Bool.false_and] at hr
    subst hr
    clear hn2
    cases r0 <;> cases r1 <;> cases r2 <;> cases r3
    all_goals
      go_enter Try.func25, Try.ntmps25
      go_wp2_with (go_at_call 34; (first
             | (with_reducible refine (I0.out _).mono ?_)
             | (with_reducible refine (I1.out _).mono ?_)
             | (with_reducible refine (I2.out _).mono ?_)
             | (with_reducible refine (I3.out _).mono ?_)); rintro e w' ⟨rfl, rfl⟩)
      go_ret
      exact ⟨rfl, HB.out⟩
end Go.Proofs.Ytcmehjjaologpaa

/-
  Layer 18: the reference's SameMaps.
-/
namespace Go.Proofs.Ytcmehjjaologpaa
open Go.RowKit
set_option linter.unusedVariables false
set_option linter.unusedSimpArgs false

end Go.Proofs.Ytcmehjjaologpaa

/-
  Layer 18: the law's Few.
-/
namespace Go.Proofs.Ytcmehjjaologpaa
open Go.RowKit
set_option linter.unusedVariables false
set_option linter.unusedSimpArgs false

/-- is a pool small -/
def few18 (p : Pol18) : Bool := decide (p.devs.length ≤ 200) && decide (cnt18 p.devs ≤ 2000)
theorem few18_yes {p : Pol18} : few18 p = true ↔ p.devs.length ≤ 200 ∧ cnt18 p.devs ≤ 2000 := by simp [few18]
theorem cnt18_most {ds : List Dev18} (h : ∀ d ∈ ds, d.maps.length ≤ 140737488351232) : cnt18 ds ≤ ds.length * 140737488351232 := by
  induction ds with
  | nil => simp [cnt18]
  | cons d r ih =>
    have h1 := h d (by simp)
    have h2 := ih fun x hx => h x (List.mem_cons_of_mem _ hx)
    simp only [cnt18, List.map_cons, List.sum_cons, List.length_cons] at h2 ⊢
    omega

set_option maxRecDepth 100000 in
set_option maxHeartbeats 800000 in
theorem Few_any18 (p : Pol18) (A : Option Addr) (n c : Nat) (w : World) (h : Dvs w A n c p.devs) (hbd : ∀ d ∈ p.devs, d.maps.length ≤ 140737488351232) :
    Calls Try.prog 6 #[polV18 p A n c] w fun e w' => e = .returned (.int .i64 (if few18 p = true then 1 else 0)) ∧ Below w.heap.size w w' := by
  have hle : n ≤ 9223372036854775807 := Nat.le_trans h.cap h.most
  have hl := h.len
  obtain ⟨W0, hW0⟩ : ∃ W0, w.alloc (.cells #[.int .i64 p.tx, .int .i64 p.time, .int .i64 p.unit, .int .i64 p.data, .slice A n c] 24) = W0 := ⟨_, rfl⟩
  have hb0 : Below w.heap.size w W0 := by rw [← hW0]; exact (Below.refl _ _).alloc (Nat.le_refl _) _
  have hR0 : W0.heap[w.heap.size]? = some (Obj.cells #[.int .i64 p.tx, .int .i64 p.time, .int .i64 p.unit, .int .i64 p.data, .slice A n c] 24 (0, 0)) := by rw [← hW0]; exact heap_alloc_new w _
  have h4 : W0.cell? ⟨w.heap.size, 4, none⟩ = some (.slice A n c) := by rw [cell_of_row W0 w.heap.size 4 _ _ _ hR0]; rfl
  have HD : Hid (∀ k, k < n → ∃ b off A' m c', A = some ⟨b, off, none⟩ ∧ W0.cell? ⟨b, off + k * 5 + 4, none⟩ = some (.slice A' m c') ∧ m = (p.devs.getD k zero18).maps.length ∧ m ≤ 140737488351232) := fun k hk => by
    obtain ⟨b, off, A', m, c', e, hb, _, _, _, _, g4, hT⟩ := h.at18 hk
    have hkl : k < p.devs.length := by omega
    have hm := hbd p.devs[k] (List.getElem_mem hkl)
    rw [← getD18 hkl zero18, hT.len] at hm
    exact ⟨b, off, A', m, c', e, (hb0.cell hb).trans g4, hT.len.symm, hm⟩
  have ST := Lib.hid (fun (k : Nat) (hk : k < n) => cnt18_take (ds := p.devs) (k := k) (by omega))
  have SL : Hid (∀ k, k ≤ n → cnt18 (p.devs.take k) ≤ k * 140737488351232) := fun k hk => by
    have := cnt18_most (ds := p.devs.take k) fun d hd => hbd d (List.mem_of_mem_take hd)
    rwa [List.length_take, show min k p.devs.length = k by omega] at this
  have SA : Hid (cnt18 (p.devs.take n) = cnt18 p.devs) := by rw [List.take_of_length_le (by omega)]; exact Lib.hid rfl
  have HB := Lib.hid hb0
  have S0 : Hid (cnt18 (p.devs.take 0) = 0) := Lib.hid rfl
  have HF : Hid (few18 p = true ↔ n ≤ 200 ∧ cnt18 p.devs ≤ 2000) := by rw [← hl]; exact Lib.hid few18_yes
  clear h hb0 hR0 hbd
  unfold polV18
  generalize few18 p = f at *
  generalize p.tx = v0 at *
  generalize p.time = v1 at *
  generalize p.unit = v2 at *
  generalize p.data = v3 at *
  generalize p.devs = ds at *
  go_enter Try.func6, Try.ntmps6
  go_wp2
  go_loopw [3, 4] (fun v i wr => ∃ (k : Nat), k ≤ n ∧ k ≤ 201 ∧ i = .int .i64 k ∧ v = .int .i64 (cnt18 (ds.take k) : Int) ∧ wr = W0) (fun _ i _ => n - (intOf i).toNat)
  case atStart => exact ⟨0, by omega, by omega, rfl, by rw [S0.out]; rfl, rfl⟩
  case round =>
    obtain ⟨k, hk, hk2, rfl, rfl, rfl⟩ := hrel
    by_cases hlt : k < n ∧ k < 201
    · obtain ⟨hlt, hlt2⟩ := hlt
      obtain ⟨b, off, A', m, c', rfl, g4, hm, hm2⟩ := HD.out k hlt
      have hst := ST.out k hlt
      rw [← hm] at hst
      have h2 := SL.out k hk
      have HST := Lib.hid hst
      clear hst hm
      generalize cnt18 (ds.take k) = x at *
      go_wp2
      go_roundw
      all_goals first
        | exact ⟨k + 1, by omega, by omega, by push_cast; rfl, by rw [HST.out]; push_cast; rfl, trivial⟩
        | (simp only [intOf]; omega)
    · by_cases hn : k = n
      · subst hn
        have HX := Lib.hid SA.out
        generalize cnt18 (ds.take k) = x at *
        rw [← HX.out] at HF
        by_cases h1 : k ≤ 200
        · by_cases h2 : x ≤ 2000
          · obtain rfl : f = true := HF.out.2 ⟨h1, h2⟩
            by_cases h3 : k < 201
            · go_wp2
              go_ret
              exact ⟨rfl, HB.out⟩
            · omega
          · obtain rfl : f = false := by cases f; rfl; exact absurd (HF.out.1 rfl).2 h2
            go_wp2
            go_ret
            exact ⟨rfl, HB.out⟩
        · obtain rfl : f = false := by cases f; rfl; exact absurd (HF.out.1 rfl).1 h1
          go_wp2
          go_ret
          exact ⟨rfl, HB.out⟩
      · have hkn : k < n := by omega
        obtain rfl : k = 201 := by omega
        obtain rfl : f = false := by cases f; rfl; exact absurd (HF.out.1 rfl).1 (by omega)
        generalize cnt18 (ds.take 201) = x at *
        go_wp2
        go_ret
        exact ⟨rfl, HB.out⟩
end Go.Proofs.Ytcmehjjaologpaa
