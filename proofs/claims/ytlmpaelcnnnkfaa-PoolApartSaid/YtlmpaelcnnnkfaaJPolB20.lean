/-
  Joined: PgK, PgR, PolLv.
-/
import Derived.Test.YtlmpaelcnnnkfaaJPolB17
import Derived.Test.YtlmpaelcnnnkfaaJPolB19
import Derived.Test.YtlmpaelcnnnkfaaJPolB16
import Derived.Test.YtlmpaelcnnnkfaaJPolB12
import Derived.Test.YtlmpaelcnnnkfaaJPolB07
/-
  Layer 18: Check.
-/
namespace Go.Proofs.Ytlmpaelcnnnkfaa
open Go.RowKit
set_option linter.unusedVariables false
set_option linter.unusedSimpArgs false

/-! ### the order of the errors -/
/-- mappings with their indices from k on -/
def numK18 (k : Nat) (l : List (Int × Int × Int)) : List (Nat × Int × Int × Int) := (List.range l.length).map fun i => (k + i, l.getD i (0, 0, 0))
theorem numK18_cons (k : Nat) (x : Int × Int × Int) (r : List (Int × Int × Int)) : numK18 k (x :: r) = (k, x) :: numK18 (k + 1) r := by
  unfold numK18
  rw [List.length_cons, List.range_succ_eq_map, List.map_cons, List.map_map]
  congr 1
  refine List.map_congr_left fun i _ => ?_
  simp
  omega
theorem numK18_zero (l : List (Int × Int × Int)) : numK18 0 l = num18 l := by simp [numK18, num18]
theorem errs18_numK (data : Int) : ∀ (l : List (Int × Int × Int)) (k : Nat) (last : Int), 0 < k → errs18 data last (numK18 k l) = mapsE18 data (some last) l
  | [], k, last, _ => by simp [numK18, errs18, mapsE18]
  | x :: r, k, last, hk => by
    rw [numK18_cons, errs18, mapsE18, errs18_numK data r (k + 1) x.1 (by omega)]
    have e0 : errM18 data last (k, x) = if mapR18 data x = false then 2 else if (∃ y, some last = some y ∧ x.1 ≤ y) then 8 else 0 := by
      unfold errM18
      simp [hk]
    rw [e0]
    by_cases h1 : mapR18 data x = false
    · simp only [if_pos h1]
      rw [if_pos (by decide)]
    · by_cases h2 : ∃ y, some last = some y ∧ x.1 ≤ y
      · simp only [if_neg h1, if_pos h2]
        rw [if_pos (by decide)]
      · simp only [if_neg h1, if_neg h2]
        rw [if_neg (by simp)]
theorem errs18_num (data last : Int) (l : List (Int × Int × Int)) : errs18 data last (num18 l) = mapsE18 data none l := by
  rw [← numK18_zero]
  cases l with
  | nil => rfl
  | cons x r =>
    rw [numK18_cons, errs18, mapsE18, errs18_numK data r 1 x.1 (by omega)]
    have e0 : errM18 data last (0, x) = if mapR18 data x = false then 2 else if (∃ y, (none : Option Int) = some y ∧ x.1 ≤ y) then 8 else 0 := by
      unfold errM18
      simp
    rw [e0]
    by_cases h1 : mapR18 data x = false
    · simp only [if_pos h1]
      rw [if_pos (by decide)]
    · have h2 : ¬ ∃ y, (none : Option Int) = some y ∧ x.1 ≤ y := by rintro ⟨y, hy, _⟩; cases hy
      simp only [if_neg h1, if_neg h2]
      rw [if_neg (by simp)]
theorem errs18_flat (data : Int) : ∀ (ds : List Dev18) (last : Int), errs18 data last (flat18 ds) = first18 (ds.map fun d => mapsE18 data none d.maps)
  | [], last => rfl
  | d :: r, last => by
    have e : flat18 (d :: r) = num18 d.maps ++ flat18 r := by simp [flat18]
    rw [e, errs18_append, errs18_num, errs18_flat data r, List.map_cons, first18]
theorem first18_append : ∀ (a b : List Int), first18 (a ++ b) = if first18 a ≠ 0 then first18 a else first18 b
  | [], b => by simp [first18]
  | x :: r, b => by
    rw [List.cons_append, first18, first18]
    by_cases h : x ≠ 0
    · rw [if_pos h, if_pos h, if_pos h]
    · rw [if_neg h, if_neg h, first18_append r b]
theorem chk18_snd {data : Int} {ds : List Dev18} {k : Nat} {e : Int} (h : Snd18 ds k e) : devsE18 data none ds = if errs18 data 0 (flat18 (ds.take k)) ≠ 0 then errs18 data 0 (flat18 (ds.take k)) else e := by
  obtain ⟨hj, hk⟩ := h
  have hkl : k ≤ ds.length := by rcases hk with ⟨h, _⟩ | ⟨h, _⟩ <;> omega
  have e1 : (List.range ds.length).map (devAt18 data none ds) = ((ds.take k).map fun d => mapsE18 data none d.maps) ++ ((List.range (ds.length - k)).map fun i => devAt18 data none ds (k + i)) := by
    apply List.ext_getElem
    · simp; omega
    · intro i h1 h2
      have hi : i < ds.length := by simpa using h1
      by_cases hik : i < k
      · rw [List.getElem_append_left (by simp; omega)]
        simp only [List.getElem_map, List.getElem_range, List.getElem_take]
        rw [devAt18, if_neg (by rw [hj i hik]; simp), getD18 hi]
      · rw [List.getElem_append_right (by simp; omega)]
        simp only [List.getElem_map, List.getElem_range, List.length_map, List.length_take]
        congr 1
        omega
  rw [devsE18_first, e1, first18_append, ← errs18_flat data (ds.take k) 0]
  split
  · rfl
  · rcases hk with ⟨hk, he, h0⟩ | ⟨hk, he⟩
    · obtain ⟨m, hm⟩ : ∃ m, ds.length - k = m + 1 := ⟨ds.length - k - 1, by omega⟩
      rw [hm, List.range_succ_eq_map, List.map_cons, first18, Nat.add_zero]
      have hd : devAt18 data none ds k = e := by rw [devAt18, if_pos (by rw [he]; exact h0), he]
      rw [hd, if_pos h0]
    · rw [hk, Nat.sub_self]
      exact he.symm

/-! ### devices cut -/
theorem info_dev18 : (Try.prog.info? 32).map (fun i => (i.zero, i.size, i.bytes)) = some (some (.agg #[.int .i64 0, .int .i64 0, .int .i64 0, .int .i64 0, .slice none 0 0]), 5, 56) := by kernel_rfl
theorem size_dev18 (V : World) : (sizeOf 32).run Try.prog V = .ok 5 V := by
  obtain ⟨i0, hi0, _, hz1, _⟩ := info_parts info_dev18
  simp [sizeOf, typeInfo, hi0, hz1]
theorem elem_dev18 : Try.prog.elem 22 = 32 := by kernel_rfl
theorem cut_to18 {w : World} {A : Option Addr} {n c : Nat} {l : List Dev18} (h : Dvs w A n c l) {k : Nat} (hk : k ≤ n) :
    (∀ V, (Instr.slice 22 (.slice A n c) none (some (.int .i64 (k : Int))) none).run Try.prog V = .ok (.slice A k c) V) ∧ Dvs w A k c (l.take k) := by
  have hlen := h.len
  have hcap := h.cap
  have hmost := h.most
  refine ⟨fun V => ?_, ⟨by simp [hlen]; omega, by omega, hmost, fun j hj => ?_⟩⟩
  · rw [run_slice_h (P := Try.prog) (w := V) (t := 22) (a := A) (len := n) (cap := c) (ht := by rw [elem_dev18]; exact Try.underlying22) (kh := .i64) (h := (k : Int)) (h0 := by omega) (h2 := by omega), elem_dev18, size_dev18]
    have e : (if c = 0 then A else A.map (·.add 0)) = A := by
      split
      · rfl
      · cases A with
        | none => rfl
        | some a => simp [Addr.add]
    simp only [Result.andThen, sliced, Int.toNat_natCast, Nat.sub_zero, Nat.zero_mul, e]
  · obtain ⟨ad, e, hd⟩ := h.row j (by simp at hj; omega)
    exact ⟨ad, e, by rw [List.getElem_take]; exact hd⟩

set_option maxRecDepth 100000 in
set_option maxHeartbeats 1600000 in
theorem Check_any18 (p : Pol18) (A : Option Addr) (n c : Nat) (w : World) (h : Dvs w A n c p.devs) (hc : cnt18 p.devs ≤ 1000000) :
    Calls Try.prog 8 #[polV18 p A n c] w fun e w' => e = .returned (.int .i64 (chkE18 p)) ∧ Below w.heap.size w w' := by
  obtain ⟨W0, hW0⟩ : ∃ W0, w.alloc (.cells #[.int .i64 p.tx, .int .i64 p.time, .int .i64 p.unit, .int .i64 p.data, .slice A n c] 24) = W0 := ⟨_, rfl⟩
  have hs0 : W0.heap.size = w.heap.size + 1 := by rw [← hW0]; exact World.size_alloc _ _
  have hb0 : Below w.heap.size w W0 := by rw [← hW0]; exact (Below.refl _ _).alloc (Nat.le_refl _) _
  have hR0 : W0.heap[w.heap.size]? = some (Obj.cells #[.int .i64 p.tx, .int .i64 p.time, .int .i64 p.unit, .int .i64 p.data, .slice A n c] 24 (0, 0)) := by rw [← hW0]; exact heap_alloc_new w _
  have c0 : W0.cell? ⟨w.heap.size, 0, none⟩ = some (.int .i64 p.tx) := by rw [cell_of_row W0 w.heap.size 0 _ _ _ hR0]; rfl
  have c1 : W0.cell? ⟨w.heap.size, 1, none⟩ = some (.int .i64 p.time) := by rw [cell_of_row W0 w.heap.size 1 _ _ _ hR0]; rfl
  have c2 : W0.cell? ⟨w.heap.size, 2, none⟩ = some (.int .i64 p.unit) := by rw [cell_of_row W0 w.heap.size 2 _ _ _ hR0]; rfl
  have c3 : W0.cell? ⟨w.heap.size, 3, none⟩ = some (.int .i64 p.data) := by rw [cell_of_row W0 w.heap.size 3 _ _ _ hR0]; rfl
  have c4 : W0.cell? ⟨w.heap.size, 4, none⟩ = some (.slice A n c) := by rw [cell_of_row W0 w.heap.size 4 _ _ _ hR0]; rfl
  obtain ⟨r, hr⟩ : ∃ r, (headR18 p && decide (n ≤ 4096) && decide (cnt18 p.devs ≤ 16384)) = r := ⟨_, rfl⟩
  have BD := Lib.hid (bounded_any18 p A n c W0 (h.below hb0) hc r hr.symm)
  unfold polV18 at BD
  have HB := Lib.hid hb0
  have HS0 := Lib.hid hs0
  cases r with
  | false =>
    have hv : chkE18 p = 2 := by
      cases hh : headR18 p with
      | false => exact chkE18_head hh
      | true =>
        refine chkE18_many hh ?_
        rw [hh] at hr
        have hl := h.len
        by_cases h4 : n ≤ 4096
        · have : ¬ cnt18 p.devs ≤ 16384 := by simpa [h4] using hr
          exact .inr (by omega)
        · exact .inl (by omega)
    rw [hv]
    clear hv hr h hb0 hR0 hs0
    unfold polV18
    generalize p.tx = v0 at *
    generalize p.time = v1 at *
    generalize p.unit = v2 at *
    generalize p.data = v3 at *
    go_enter Try.func8, Try.ntmps8
    go_wp2_with (go_at_call 23; (with_reducible refine (BD.out).mono ?_); rintro e w1 ⟨rfl, hb1⟩; have HB1 := Lib.hid (HB.out.trans (hb1.mono HB.out.size)); clear hb1)
    go_ret
    exact ⟨rfl, HB1.out⟩
  | true =>
    simp only [Bool.and_eq_true, decide_eq_true_eq] at hr
    obtain ⟨⟨hh, h4⟩, h16⟩ := hr
    have hdt : 0 ≤ p.data ∧ p.data ≤ 65536 := by
      have : headR18 p = true := hh
      unfold headR18 at this
      simp only [Bool.and_eq_true, in18_yes] at this
      exact this.2
    rw [chkE18_devs hh (by have := h.len; omega)]
    have SD : Hid (∀ W, Below w.heap.size w W → Calls Try.prog 24 #[.slice A n c] W fun e w' => ∃ (k : Nat) (x : Int), e = .returned (.tuple #[.int .i64 (k : Int), .int .i64 x]) ∧ Hid (Snd18 p.devs k x) ∧ k ≤ n ∧ Below W.heap.size W w') := fun W hW => sound_any18 p.devs A n c W (h.below hW)
    have MP : Hid (∀ W k, Below w.heap.size w W → k ≤ n → Calls Try.prog 25 #[.slice A k c, .int .i64 p.data] W fun e w' => e = .returned (.int .i64 (errs18 p.data 0 (flat18 (p.devs.take k)))) ∧ Hid (Below w.heap.size w w')) := fun W k hW hk => (mapped_any18 (p.devs.take k) A k c p.data W ((cut_to18 h hk).2.below hW) hdt.1 hdt.2).mono fun e w' ⟨h1, h2⟩ => ⟨h1, hW.trans (h2.mono hW.size)⟩
    have CUT : Hid (∀ k, k ≤ n → ∀ V, (Instr.slice 22 (.slice A n c) none (some (.int .i64 (k : Int))) none).run Try.prog V = .ok (.slice A k c) V) := fun k hk => (cut_to18 h hk).1
    have CH : Hid (∀ k e, Snd18 p.devs k e → devsE18 p.data none p.devs = if errs18 p.data 0 (flat18 (p.devs.take k)) ≠ 0 then errs18 p.data 0 (flat18 (p.devs.take k)) else e) := fun k e h => chk18_snd h
    clear h hb0 hR0 hs0 h4 h16 hdt hh hc
    unfold polV18
    generalize devsE18 p.data none p.devs = R at *
    generalize p.tx = v0 at *
    generalize p.time = v1 at *
    generalize p.unit = v2 at *
    generalize p.data = v3 at *
    generalize p.devs = ds at *
    go_enter Try.func8, Try.ntmps8
    go_wp2_with (first
      | (go_at_call 23; (with_reducible refine (BD.out).mono ?_); rintro e w1 ⟨rfl, hb1⟩; have HB1 := Lib.hid (HB.out.trans (hb1.mono HB.out.size)); have d3 := (hb1.cell (p := ⟨w.heap.size, 3, none⟩) (by show w.heap.size < W0.heap.size; have := HS0.out; omega)).trans c3; have d4 := (hb1.cell (p := ⟨w.heap.size, 4, none⟩) (by show w.heap.size < W0.heap.size; have := HS0.out; omega)).trans c4; have HL1 : Hid (w.heap.size < w1.heap.size) := (by have h1 := hb1.size; have h2 := HS0.out; show w.heap.size < w1.heap.size; omega); clear hb1)
      | (go_at_call 24; (with_reducible refine (SD.out _ HB1.out).mono ?_); rintro e w2 ⟨k, x, rfl, hsn, hk, hb2⟩; have HB2 := Lib.hid (HB1.out.trans (hb2.mono HB1.out.size)); have e3 := (hb2.cell (p := ⟨w.heap.size, 3, none⟩) HL1.out).trans d3; have e4 := (hb2.cell (p := ⟨w.heap.size, 4, none⟩) HL1.out).trans d4; clear hb2))
    have hCH := Lib.hid (CH.out k x hsn.out)
    have MPk := Lib.hid (fun W hW => MP.out W k hW hk)
    have hcut := CUT.out k hk
    clear MP CUT CH SD BD hsn
    generalize errs18 v3 0 (flat18 (ds.take k)) = y at *
    go_region_with (go_at_call 25; (with_reducible refine (MPk.out _ (by first | exact HB2.out | exact HB2.out.drew | exact below_drewN HB2.out _)).mono ?_); rintro e w6 ⟨rfl, hb6⟩)
    all_goals
      by_cases hy : y = 0
      · obtain rfl : R = x := by rw [hCH.out, if_neg (by rw [hy]; simp)]
        subst hy
        go_wp2
        go_ret
        exact ⟨rfl, hb6.out⟩
      · obtain rfl : R = y := by rw [hCH.out, if_pos hy]
        have hyb : (R != 0) = true := by simpa using hy
        go_wp2
        go_ret
        exact ⟨rfl, hb6.out⟩
end Go.Proofs.Ytlmpaelcnnnkfaa

/-
  Layer 18: Refs.
-/
namespace Go.Proofs.Ytlmpaelcnnnkfaa
open Go.RowKit Go.Shelf
set_option linter.unusedVariables false
set_option linter.unusedSimpArgs false
attribute [local go_sem] Oper.semAt_some

/-- the data blocks of mappings -/
abbrev bls18 (l : List (Nat × Int × Int × Int)) : List Int := l.map fun x => x.2.2.1
theorem bls18_flat (ds : List Dev18) : bls18 (flat18 ds) = blks18 ds := flat18_map (fun q => q.2.1) ds
theorem lst18_refs (D : Nat) (bs : List Int) (h : ∀ b ∈ bs, 0 ≤ b ∧ b < (D : Int)) : lstR12 D (keepR12 D bs) = refs18 D bs := by
  have e : keepR12 D bs = bs := by
    unfold keepR12
    rw [List.filter_eq_self]
    intro b hb
    have := h b hb
    simpa using this
  rw [e]
  rfl

set_option maxRecDepth 100000 in
set_option maxHeartbeats 1600000 in
theorem Refs_bad18 (p : Pol18) (A : Option Addr) (n c : Nat) (w : World) (h : Dvs w A n c p.devs) (hc : cnt18 p.devs ≤ 1000000) (hv : chkE18 p ≠ 0) :
    Calls Try.prog 19 #[polV18 p A n c] w fun e w' => e = .returned (.slice none 0 0) ∧ Below w.heap.size w w' := by
  obtain ⟨W0, hW0⟩ : ∃ W0, w.alloc (.cells #[.int .i64 p.tx, .int .i64 p.time, .int .i64 p.unit, .int .i64 p.data, .slice A n c] 24) = W0 := ⟨_, rfl⟩
  have hb0 : Below w.heap.size w W0 := by rw [← hW0]; exact (Below.refl _ _).alloc (Nat.le_refl _) _
  have hR0 : W0.heap[w.heap.size]? = some (Obj.cells #[.int .i64 p.tx, .int .i64 p.time, .int .i64 p.unit, .int .i64 p.data, .slice A n c] 24 (0, 0)) := by rw [← hW0]; exact heap_alloc_new w _
  have c0 : W0.cell? ⟨w.heap.size, 0, none⟩ = some (.int .i64 p.tx) := by rw [cell_of_row W0 w.heap.size 0 _ _ _ hR0]; rfl
  have c1 : W0.cell? ⟨w.heap.size, 1, none⟩ = some (.int .i64 p.time) := by rw [cell_of_row W0 w.heap.size 1 _ _ _ hR0]; rfl
  have c2 : W0.cell? ⟨w.heap.size, 2, none⟩ = some (.int .i64 p.unit) := by rw [cell_of_row W0 w.heap.size 2 _ _ _ hR0]; rfl
  have c3 : W0.cell? ⟨w.heap.size, 3, none⟩ = some (.int .i64 p.data) := by rw [cell_of_row W0 w.heap.size 3 _ _ _ hR0]; rfl
  have c4 : W0.cell? ⟨w.heap.size, 4, none⟩ = some (.slice A n c) := by rw [cell_of_row W0 w.heap.size 4 _ _ _ hR0]; rfl
  have CK := Lib.hid (Check_any18 p A n c W0 (h.below hb0) hc)
  unfold polV18 at CK
  have HB := Lib.hid hb0
  have hyb : (chkE18 p != 0) = true := by simpa using hv
  clear h hb0 hR0 hv
  unfold polV18
  generalize chkE18 p = y at *
  generalize p.tx = v0 at *
  generalize p.time = v1 at *
  generalize p.unit = v2 at *
  generalize p.data = v3 at *
  go_enter Try.func19, Try.ntmps19
  go_wp2_with (go_at_call 8; (with_reducible refine (CK.out).mono ?_); rintro e w1 ⟨rfl, hb1⟩; have HB1 := Lib.hid (HB.out.trans (hb1.mono HB.out.size)); clear hb1)
  go_ret
  exact ⟨rfl, HB1.out⟩

/-- Refs' own variables: the counter, its variable -/
structure Rfs18 (w W : World) (B p g X N : Nat) (l : List Int) : Prop where
  cn : Cnt W B p g (lstR12 N (keepR12 N l))
  bx : Boxed W X 54 (.pointer (some ⟨p, 0, none⟩))
  bel : Below w.heap.size w W
  sz : X + 2 ≤ W.heap.size
theorem Rfs18.later {w W W' : World} {B p g X N : Nat} {l : List Int} (h : Rfs18 w W B p g X N l) (hb : Below W.heap.size W W') : Rfs18 w W' B p g X N l :=
  ⟨h.cn.later hb, (hb.block _ h.bx.lt).trans h.bx, h.bel.trans (hb.mono h.bel.size), Nat.le_trans h.sz hb.size⟩
theorem cells_other18 {X Y : World} {row : Option Nat} (hg : X.grownBy Y row) {q : Nat} {cs : Array Value} {t : TypeId} {z : Nat × Nat} (h : X.heap[q]? = some (.cells cs t z)) (hr : ∀ r, row = some r → ∃ o : Obj, X.heap[r]? = some o ∧ o.isCells = false) : Y.heap[q]? = some (.cells cs t z) :=
  (hg.block q (block_lt h) (fun e => by
    obtain ⟨o, ho, hc⟩ := hr q e.symm
    rw [h] at ho
    cases ho; cases hc)).trans h
theorem Rfs18.own (w : World) (B p g X N : Nat) {β : Type} (f : β → List Int) (C : Nat) (hC : w.heap.size ≤ C) : OwnFrom C (fun (s : β) W => Rfs18 w W B p g X N (f s)) := fun s Z Y row hs hg hr =>
  have hr2 : ∀ r, row = some r → ∃ o : Obj, Z.heap[r]? = some o ∧ o.isCells = false := fun r e => (hr r e).2
  ⟨⟨hs.cn.bp, hs.cn.ne, cells_other18 hg hs.cn.hp hr2, ⟨hs.cn.hg.low, cells_other18 hg hs.cn.hg.blk hr2⟩, hs.cn.most⟩,
    boxed_own _ _ (fun _ : Unit => Value.pointer (some ⟨p, 0, none⟩)) () Z Y row hs.bx hg hr2, ownFrom_below (β := Unit) (w₀ := w) (Nat.le_refl _) hC () Z Y row hs.bel hg hr, Nat.le_trans hs.sz hg.size⟩
theorem Rfs18.put {w W : World} {B p g X N : Nat} {l : List Int} (h : Rfs18 w W B p g X N l) {D : Nat} {o : Obj} (o' : Obj) (hD : w.heap.size ≤ D) (hl : W.heap[D]? = some o) (hc : o.isCells = false) : Rfs18 w (W.putObj D o') B p g X N l :=
  OwnFrom.putObj (Rfs18.own w B p g X N (fun _ : Unit => l) w.heap.size (Nat.le_refl _)) (s := ()) o' h hD hl hc
theorem kept_from18 {g B : Nat} {w w' : World} (h : Kept g w w') (hB : g < B) : KeepsFrom B w w' := ⟨by rw [h.size]; exact Nat.le_refl _, fun k o hk ho _ => (h.block k (by omega)).trans ho⟩

set_option maxRecDepth 100000 in
set_option maxHeartbeats 2000000 in
theorem Refs_good18 (p : Pol18) (A : Option Addr) (n c : Nat) (w : World) (h : Dvs w A n c p.devs) (hc : cnt18 p.devs ≤ 1000000) (hv : chkE18 p = 0) (D : Nat) (hD : p.data = (D : Int)) (hD2 : D ≤ 65536) :
    Calls Try.prog 19 #[polV18 p A n c] w fun e w' => ∃ A' c', e = .returned (.slice A' D c') ∧ Ints w' A' D c' (refs18 D (blks18 p.devs)) ∧ Below w.heap.size w w' := by
  obtain ⟨W0, hW0⟩ : ∃ W0, w.alloc (.cells #[.int .i64 p.tx, .int .i64 p.time, .int .i64 p.unit, .int .i64 p.data, .slice A n c] 24) = W0 := ⟨_, rfl⟩
  have hs0 : W0.heap.size = w.heap.size + 1 := by rw [← hW0]; exact World.size_alloc _ _
  have hb0 : Below w.heap.size w W0 := by rw [← hW0]; exact (Below.refl _ _).alloc (Nat.le_refl _) _
  have hR0 : W0.heap[w.heap.size]? = some (Obj.cells #[.int .i64 p.tx, .int .i64 p.time, .int .i64 p.unit, .int .i64 p.data, .slice A n c] 24 (0, 0)) := by rw [← hW0]; exact heap_alloc_new w _
  have c0 : W0.cell? ⟨w.heap.size, 0, none⟩ = some (.int .i64 p.tx) := by rw [cell_of_row W0 w.heap.size 0 _ _ _ hR0]; rfl
  have c1 : W0.cell? ⟨w.heap.size, 1, none⟩ = some (.int .i64 p.time) := by rw [cell_of_row W0 w.heap.size 1 _ _ _ hR0]; rfl
  have c2 : W0.cell? ⟨w.heap.size, 2, none⟩ = some (.int .i64 p.unit) := by rw [cell_of_row W0 w.heap.size 2 _ _ _ hR0]; rfl
  have c3 : W0.cell? ⟨w.heap.size, 3, none⟩ = some (.int .i64 p.data) := by rw [cell_of_row W0 w.heap.size 3 _ _ _ hR0]; rfl
  have c4 : W0.cell? ⟨w.heap.size, 4, none⟩ = some (.slice A n c) := by rw [cell_of_row W0 w.heap.size 4 _ _ _ hR0]; rfl
  have CK := Lib.hid (Check_any18 p A n c W0 (h.below hb0) hc)
  unfold polV18 at CK
  rw [hv] at CK
  have HR : Hid (lstR12 D (keepR12 D (bls18 (flat18 p.devs))) = refs18 D (blks18 p.devs)) := by
    rw [bls18_flat]
    exact lst18_refs D _ fun b hb => by have := blks18_in hv b hb; omega
  have HC : Hid ((flat18 p.devs).length ≤ 16384) := by
    have : ¬ (4096 < p.devs.length ∨ 16384 < cnt18 p.devs) := fun h2 => by
      unfold chkE18 at hv
      split at hv
      · cases hv
      · cases hv
    show (flat18 p.devs).length ≤ 16384
    rw [flat18_length]
    omega
  have HB := Lib.hid hb0
  have HS0 := Lib.hid hs0
  have HI := Lib.hid h
  rw [hD] at c3 CK
  clear h hb0 hR0 hv hs0
  unfold polV18
  rw [hD]
  rw [hD] at hW0
  clear hD
  generalize p.tx = v0 at *
  generalize p.time = v1 at *
  generalize p.unit = v2 at *
  generalize p.devs = ds at *
  refine (callsIn_wide (n := 2)).1 ?_
  refine callsIn_of_wp_marks Try.func19 rfl trivial ?_ rfl
  simp only [Try.ntmps19, List.size_toArray, List.length_cons, List.length_nil, Nat.reduceAdd, Nat.reduceSub, Array.replicate_succ, Array.replicate_zero, List.push_toArray, List.append_toArray, List.nil_append, List.cons_append]
  gi_wp2_with (first
    | (refine ⟨trivial, ?_⟩; gi_at_call 8; refine (callsIn_wide.2 (CK.out)).mono ?_; rintro e w1 ⟨rfl, hb1⟩; have HB1 := Lib.hid (HB.out.trans (hb1.mono HB.out.size)); have d3 := (hb1.cell (p := ⟨w.heap.size, 3, none⟩) (by show w.heap.size < W0.heap.size; have := HS0.out; omega)).trans c3; have d4 := (hb1.cell (p := ⟨w.heap.size, 4, none⟩) (by show w.heap.size < W0.heap.size; have := HS0.out; omega)).trans c4; have HL1 : Hid (w.heap.size < w1.heap.size) := (by have h1 := hb1.size; have h2 := HS0.out; show w.heap.size < w1.heap.size; omega); clear hb1)
    | (refine ⟨trivial, ?_⟩; gi_at_call 31; refine (callsIn_wide.2 (New12_good D w1 hD2)).mono ?_; rintro e w2 ⟨q, g, rfl, hcn, hb2⟩; have e4 := (hb2.cell (p := ⟨w.heap.size, 4, none⟩) HL1.out).trans d4; have HL2 : Hid (w.heap.size < w2.heap.size) := (by have h1 := hb2.size; have h2 := HL1.out; show w.heap.size < w2.heap.size; omega); have HCN := Lib.hid hcn; have HB2 := Lib.hid (HB1.out.trans (hb2.mono HB1.out.size)); have e4a := (((Below.refl w2.heap.size w2).alloc (Nat.le_refl _) (.cells #[.pointer (some ⟨q, 0, none⟩)] 54)).cell (p := ⟨w.heap.size, 4, none⟩) HL2.out).trans e4; clear hcn hb2)
    | (refine ⟨trivial, ?_⟩; gi_at_call 29; refine (callsIn_wide.2 (all_any18 _ _ _ _)).mono ?_; rintro e w' ⟨rfl, rfl⟩))
  obtain ⟨X, hX⟩ : ∃ X, X = w2.heap.size := ⟨_, rfl⟩
  obtain ⟨B, hBw⟩ : ∃ B, B = w1.heap.size := ⟨_, rfl⟩
  rw [← hBw] at HCN
  obtain ⟨W3, hW3⟩ : ∃ W3, ((w2.alloc (.cells #[.pointer (some ⟨q, 0, none⟩)] 54)).alloc (.cells #[.slice A n c] 22)) = W3 := ⟨_, rfl⟩
  have hsz : W3.heap.size = X + 2 := by rw [← hW3, hX]; simp
  have hb23 : Below w2.heap.size w2 W3 := by rw [← hW3]; exact ((Below.refl _ w2).alloc (Nat.le_refl _) _).alloc (by simp) _
  have hB3 : Below w.heap.size w W3 := HB2.out.trans (hb23.mono HB2.out.size)
  have hgX : g < X := by rw [hX]; exact HCN.out.glt
  have hwg : w.heap.size ≤ g := by have h1 := HCN.out.hg.low; have h2 := HL1.out; rw [hBw] at h1; omega
  have hwX : w.heap.size < X := by rw [hX]; exact HL2.out
  have hM0 : Rfs18 w W3 B q g X D [] := by
    refine ⟨?_, ?_, hB3, by omega⟩
    · have e : lstR12 D (keepR12 D []) = List.replicate D 0 := lstR12_nil D
      rw [e]
      exact HCN.out.later hb23
    · have := Boxed.new w2 54 (.pointer (some ⟨q, 0, none⟩))
      rw [← hW3, hX]; exact this.alloc _
  have bC : Boxed W3 (X + 1) 22 (.slice A n c) := by
    have := Boxed.new (w2.alloc (.cells #[.pointer (some ⟨q, 0, none⟩)] 54)) 22 (.slice A n c)
    rw [World.size_alloc] at this
    rw [← hW3, hX]; exact this
  simp only [hW3]
  simp only [← hX]
  clear hW3 e4a e4 d3 d4 c0 c1 c2 c3 c4 HCN HB1 HB2 HL1 HL2 hX hBw hb23 hW0 HB HS0 CK
  have HST := Lib.hid (all_stops (X + 1) w.heap.size A n c ds w W3 HI.out (Nat.le_refl _) hB3 (by omega) bC)
  have HSZ := Lib.hid hsz
  clear hsz
  refine wpIn_rangeFunc_ownH rfl (Nat.le_succ 1) (gf := 37) (lb := #[.pointer (some ⟨X + 1, 0, none⟩)]) rfl trivial (enters_of Try.func37 (by kernel_rfl) rfl)
    HST.out KpR12.trans (KpR12.put (by have := HSZ.out; omega) (by have := HSZ.out; omega)) (Below.refl _ _) (fun _ => rfl)
    (fun pre W => Rfs18 w W B q g X D (bls18 pre) ∧ pre.length ≤ cnt18 ds)
    (fun _ _ _ => False)
    (OwnFrom.and (Rfs18.own w B q g X D (fun pre => bls18 pre) _ (by have := HSZ.out; omega)) (ownFrom_pure _ _))
    (fun _ _ _ _ _ hs _ _ => hs)
    ⟨hM0, Nat.zero_le _⟩
    (fun x a' W => ∃ Bx, MapC W Bx x.2.1 x.2.2.1 x.2.2.2 ∧ a' = { tmps := #[.agg #[.int .i64 v0, .int .i64 v1, .int .i64 v2, .int .i64 (D : Int), .slice A n c], .pointer (some ⟨w.heap.size, 0, none⟩), .slice none 0 0, .pointer (some ⟨X, 0, none⟩), .int .i64 0, undef, .pointer (some ⟨Bx, 0, none⟩), .agg #[.int .i64 v0, .int .i64 v1, .int .i64 v2, .int .i64 (D : Int), .slice A n c], .int .i64 0, .bool false, .tuple #[.pointer (some ⟨q, 0, none⟩), .int .i64 0], .pointer (some ⟨w.heap.size, 3, none⟩), .int .i64 (D : Int), .tuple #[.pointer (some ⟨q, 0, none⟩), .int .i64 0], .pointer (some ⟨q, 0, none⟩), .int .i64 0, .pointer (some ⟨w.heap.size, 4, none⟩), .slice A n c, .func (.func 37) #[] #[.pointer (some ⟨X + 1, 0, none⟩)], .int .i64 (x.1 : Int), .agg #[.int .i64 x.2.1, .int .i64 x.2.2.1, .int .i64 x.2.2.2], undef, undef, undef, undef, undef, undef], defers := [] })
    (fun x a' s X Y row hs hg hr => by
      obtain ⟨Bx, e1, e2⟩ := hs
      exact ⟨Bx, mapC_own Bx _ _ _ () X Y row e1 hg (fun r e => (hr r e).2), e2⟩) ?assign ?body ?done ?stop
  case assign =>
    rintro l pre x W K ⟨hm, hn⟩ hK
    have hal := (Below.refl W.heap.size W).alloc (Nat.le_refl _) (.cells #[.int .i64 x.2.1, .int .i64 x.2.2.1, .int .i64 x.2.2.2] 43)
    have hs4 := hm.sz
    have hfin := hK { tmps := #[.agg #[.int .i64 v0, .int .i64 v1, .int .i64 v2, .int .i64 (D : Int), .slice A n c], .pointer (some ⟨w.heap.size, 0, none⟩), .slice none 0 0, .pointer (some ⟨X, 0, none⟩), .int .i64 0, undef, .pointer (some ⟨W.heap.size, 0, none⟩), .agg #[.int .i64 v0, .int .i64 v1, .int .i64 v2, .int .i64 (D : Int), .slice A n c], .int .i64 0, .bool false, .tuple #[.pointer (some ⟨q, 0, none⟩), .int .i64 0], .pointer (some ⟨w.heap.size, 3, none⟩), .int .i64 (D : Int), .tuple #[.pointer (some ⟨q, 0, none⟩), .int .i64 0], .pointer (some ⟨q, 0, none⟩), .int .i64 0, .pointer (some ⟨w.heap.size, 4, none⟩), .slice A n c, .func (.func 37) #[] #[.pointer (some ⟨X + 1, 0, none⟩)], .int .i64 (x.1 : Int), .agg #[.int .i64 x.2.1, .int .i64 x.2.2.1, .int .i64 x.2.2.2], undef, undef, undef, undef, undef, undef], defers := [] }
      (W.alloc (.cells #[.int .i64 x.2.1, .int .i64 x.2.2.1, .int .i64 x.2.2.2] 43)) ((KeepsOthers.alloc _ _).from _) ⟨hal.mono (by omega), hal.block _ (by omega)⟩
      ⟨hm.later hal, hn⟩ ⟨W.heap.size, MapC.new W _ _ _, rfl⟩
    have HFIN := Lib.hid hfin
    unfold encM18
    obtain ⟨k, v, b, t⟩ := x
    clear hK hfin hal
    gi_wp2
    exact HFIN.out
  case body =>
    rintro l pre x a' W hl hr ⟨hm, hn⟩ ⟨Bx, hbx, rfl⟩ hlt
    obtain ⟨hx0, hx1, hx2⟩ := hbx.cs
    have b1 := hm.bx.cell
    obtain ⟨k, v, b, t⟩ := x
    have hlen : (bls18 pre).length ≤ 100000 := by
      have := HC.out
      rw [flat18_length] at this
      simp only [List.length_map]
      omega
    have AD : Hid (CallsIn (Fence.wide.inRound l) 0 Try.prog 32 #[.pointer (some ⟨q, 0, none⟩), .int .i64 b] W fun e w' => (∃ u, e = .returned u) ∧ Hid (KeepsFrom W3.heap.size W w' ∧ KpR12 w.heap.size (X + 1) W w' ∧ Rfs18 w w' B q g X D (bls18 (pre ++ [(k, v, b, t)])) ∧ (pre ++ [(k, v, b, t)]).length ≤ cnt18 ds)) := by
      refine CallsIn.mono (show CallsIn (Fence.wide.inRound l) 0 _ _ _ _ _ from callsIn_wide.2 (Add12_any (N := D) (l := bls18 pre) b W hm.cn hlen)) ?_
      rintro e w' ⟨rfl, hc2, hk2⟩
      have hs4 := hm.sz
      refine ⟨⟨_, rfl⟩, kept_from18 hk2 (by have := HSZ.out; omega), ⟨hk2.below hwg, hk2.block _ (by omega)⟩, ⟨?_, (hk2.block X (by omega)).trans hm.bx, hm.bel.trans (hk2.below hwg), by rw [hk2.size]; exact hs4⟩, by simp; omega⟩
      rw [bls18, List.map_append]
      exact hc2
    clear hm hbx hlen
    gi_wp2_with (refine ⟨trivial, rfl, ?_⟩; (with_reducible refine (AD.out).mono ?_); rintro e w9 ⟨⟨u, rfl⟩, h9⟩)
    exact h9.out
  case done =>
    rintro D2 ys W hD2 rfl ⟨hm, hn⟩ hK
    have b1 := hm.bx.cell
    have hcn := hm.cn
    rw [HR.out] at hcn
    have LS := Lib.hid (List12_any W (Own12.of_cnt hcn))
    have LL : (refs18 D (blks18 ds)).length = D := refs18_length _ _
    rw [LL] at LS
    have HBW := Lib.hid hm.bel
    have hsz2 := HSZ.out
    have hKs := block_lt hK
    clear hm hcn
    gi_wp2_with (refine ⟨trivial, ?_⟩; gi_at_call 33; refine (callsIn_wide.2 LS.out).mono ?_; rintro e w9 ⟨A', c', rfl, h9, hb9, hn9⟩; have hK9 := (hb9.block _ hKs).trans hK; have H9 := Lib.hid h9; have HN9 := Lib.hid hn9; have HB9 := Lib.hid (HBW.out.trans (hb9.mono HBW.out.size)); clear h9 hn9 hb9)
    refine ⟨by simp, .inl ⟨_, _, rfl, run_takeDeferred hK9, ?_⟩⟩
    exact ⟨_, results_tmp rfl _ _ _, A', c', rfl, H9.out.newer HN9.out (fun k hk => World.putObj_heap_other (by omega)), HB9.out.trans (belowK_b (w := w) (Nat.le_refl _) w9 D2 _ _ (by omega) hK9 rfl rfl)⟩
  case stop =>
    rintro D c pre W _ _ h _
    exact h.elim
end Go.Proofs.Ytlmpaelcnnnkfaa

/-
  Layer 18: the law's example.
-/
namespace Go.Proofs.Ytlmpaelcnnnkfaa
open Go.RowKit
set_option linter.unusedVariables false
set_option linter.unusedSimpArgs false

theorem build_map18 (x y : Int) (w : World) : (Instr.build 43 #[(0, .int .i64 x), (1, .int .i64 y)]).run Try.prog w = .ok (.agg #[.int .i64 x, .int .i64 y, .int .i64 0]) w := run_build w _ _ _ (by kernel_rfl)
theorem build_dev18 (x : Int) (A : Option Addr) (n c : Nat) (w : World) : (Instr.build 32 #[(0, .int .i64 x), (4, .slice A n c)]).run Try.prog w = .ok (.agg #[.int .i64 x, .int .i64 0, .int .i64 0, .int .i64 0, .slice A n c]) w := run_build w _ _ _ (by kernel_rfl)
theorem build_pol18 (x y : Int) (A : Option Addr) (n c : Nat) (w : World) : (Instr.build 24 #[(2, .int .i64 x), (3, .int .i64 y), (4, .slice A n c)]).run Try.prog w = .ok (.agg #[.int .i64 0, .int .i64 0, .int .i64 x, .int .i64 y, .slice A n c]) w := run_build w _ _ _ (by kernel_rfl)

/-- the example -/
def lvP18 : Pol18 := ⟨0, 0, 1, 3, [⟨1, 0, 0, 0, [(5, 1, 0)]⟩, ⟨2, 0, 0, 0, [(7, 1, 0)]⟩]⟩
structure Lv18 (w W : World) : Prop where
  pool : PolC W (w.heap.size + 1 + 1 + 1) (.int .i64 0) (.int .i64 0) (.int .i64 1) (.int .i64 3) (.slice (some ⟨w.heap.size + 1 + 1, 0, none⟩) 2 2)
  dvs : Dvs W (some ⟨w.heap.size + 1 + 1, 0, none⟩) 2 2 lvP18.devs
  bel : Below w.heap.size w W
theorem Lv18.later {w W W' : World} (h : Lv18 w W) (hb : Below W.heap.size W W') : Lv18 w W' := ⟨(hb.block _ (block_lt h.pool)).trans h.pool, h.dvs.below hb, h.bel.trans (hb.mono h.bel.size)⟩
theorem lv18_start (w : World) : Lv18 w ((((w.alloc (.cells #[.int .i64 5, .int .i64 1, .int .i64 0] 43)).alloc (.cells #[.int .i64 7, .int .i64 1, .int .i64 0] 43)).alloc (.cells #[.int .i64 1, .int .i64 0, .int .i64 0, .int .i64 0, .slice (some ⟨w.heap.size, 0, none⟩) 1 1, .int .i64 2, .int .i64 0, .int .i64 0, .int .i64 0, .slice (some ⟨w.heap.size + 1, 0, none⟩) 1 1] 32)).alloc (.cells #[.int .i64 0, .int .i64 0, .int .i64 1, .int .i64 3, .slice (some ⟨w.heap.size + 1 + 1, 0, none⟩) 2 2] 24)) := by
  have b1 := (Below.refl w.heap.size w).alloc (Nat.le_refl _) (.cells #[.int .i64 5, .int .i64 1, .int .i64 0] 43)
  have h1 := MapC.new w 5 1 0
  generalize hw1 : w.alloc (.cells #[.int .i64 5, .int .i64 1, .int .i64 0] 43) = w1 at *
  have s1 : w1.heap.size = w.heap.size + 1 := by rw [← hw1]; simp
  have b2 := (Below.refl w1.heap.size w1).alloc (Nat.le_refl _) (.cells #[.int .i64 7, .int .i64 1, .int .i64 0] 43)
  have h2 := MapC.new w1 7 1 0
  generalize hw2 : w1.alloc (.cells #[.int .i64 7, .int .i64 1, .int .i64 0] 43) = w2 at *
  have s2 : w2.heap.size = w.heap.size + 1 + 1 := by rw [← hw2]; simp [s1]
  have b3 := (Below.refl w2.heap.size w2).alloc (Nat.le_refl _) (.cells #[.int .i64 1, .int .i64 0, .int .i64 0, .int .i64 0, .slice (some ⟨w.heap.size, 0, none⟩) 1 1, .int .i64 2, .int .i64 0, .int .i64 0, .int .i64 0, .slice (some ⟨w.heap.size + 1, 0, none⟩) 1 1] 32)
  have h3 := heap_alloc_new w2 (.cells #[.int .i64 1, .int .i64 0, .int .i64 0, .int .i64 0, .slice (some ⟨w.heap.size, 0, none⟩) 1 1, .int .i64 2, .int .i64 0, .int .i64 0, .int .i64 0, .slice (some ⟨w.heap.size + 1, 0, none⟩) 1 1] 32)
  generalize hw3 : w2.alloc (.cells #[.int .i64 1, .int .i64 0, .int .i64 0, .int .i64 0, .slice (some ⟨w.heap.size, 0, none⟩) 1 1, .int .i64 2, .int .i64 0, .int .i64 0, .int .i64 0, .slice (some ⟨w.heap.size + 1, 0, none⟩) 1 1] 32) = w3 at *
  have s3 : w3.heap.size = w.heap.size + 1 + 1 + 1 := by rw [← hw3]; simp [s2]
  have b4 := (Below.refl w3.heap.size w3).alloc (Nat.le_refl _) (.cells #[.int .i64 0, .int .i64 0, .int .i64 1, .int .i64 3, .slice (some ⟨w.heap.size + 1 + 1, 0, none⟩) 2 2] 24)
  have h4 := heap_alloc_new w3 (.cells #[.int .i64 0, .int .i64 0, .int .i64 1, .int .i64 3, .slice (some ⟨w.heap.size + 1 + 1, 0, none⟩) 2 2] 24)
  generalize hw4 : w3.alloc (.cells #[.int .i64 0, .int .i64 0, .int .i64 1, .int .i64 3, .slice (some ⟨w.heap.size + 1 + 1, 0, none⟩) 2 2] 24) = w4 at *
  rw [s1] at h2
  rw [s2] at h3
  rw [s3] at h4
  have b34 : Below w3.heap.size w3 w4 := b4
  have g1 : MapC w4 w.heap.size 5 1 0 := (b4.block _ (by omega)).trans ((b3.block _ (by omega)).trans ((b2.block _ (by omega)).trans h1))
  have g2 : MapC w4 (w.heap.size + 1) 7 1 0 := (b4.block _ (by omega)).trans ((b3.block _ (by omega)).trans h2)
  have g3 := (b4.block _ (by omega : w.heap.size + 1 + 1 < w3.heap.size)).trans h3
  have t1 : Trs w4 (some ⟨w.heap.size, 0, none⟩) 1 1 [(5, 1, 0)] := ⟨rfl, Nat.le_refl _, by omega, fun k hk => by
    obtain rfl : k = 0 := by simp at hk; exact hk
    exact ⟨_, rfl, g1.cs.1, g1.cs.2.1, g1.cs.2.2⟩⟩
  have t2 : Trs w4 (some ⟨w.heap.size + 1, 0, none⟩) 1 1 [(7, 1, 0)] := ⟨rfl, Nat.le_refl _, by omega, fun k hk => by
    obtain rfl : k = 0 := by simp at hk; exact hk
    exact ⟨_, rfl, g2.cs.1, g2.cs.2.1, g2.cs.2.2⟩⟩
  have cc : ∀ j v, #[Value.int .i64 1, .int .i64 0, .int .i64 0, .int .i64 0, .slice (some ⟨w.heap.size, 0, none⟩) 1 1, .int .i64 2, .int .i64 0, .int .i64 0, .int .i64 0, .slice (some ⟨w.heap.size + 1, 0, none⟩) 1 1][j]? = some v → w4.cell? ⟨w.heap.size + 1 + 1, j, none⟩ = some v := fun j v h => by rw [cell_of_row w4 _ j _ _ _ g3]; exact h
  refine ⟨h4, ⟨rfl, Nat.le_refl _, by omega, fun k hk => ?_⟩, ?_⟩
  · have hk : k < 2 := hk
    rcases (by omega : k = 0 ∨ k = 1) with rfl | rfl
    · exact ⟨_, rfl, _, _, _, cc 0 _ rfl, cc 1 _ rfl, cc 2 _ rfl, cc 3 _ rfl, cc 4 _ rfl, t1⟩
    · exact ⟨_, rfl, _, _, _, cc 5 _ rfl, cc 6 _ rfl, cc 7 _ rfl, cc 8 _ rfl, cc 9 _ rfl, t2⟩
  · exact ((b1.trans (b2.mono (by omega))).trans (b3.mono (by omega))).trans (b4.mono (by omega))

set_option maxRecDepth 100000 in
set_option maxHeartbeats 1600000 in
theorem lives18_any (w : World) : Calls Try.prog 7 #[] w fun e w' => e = .returned (.bool true) ∧ Below w.heap.size w w' := by
  have b1 := build_map18
  have b2 := build_dev18
  have b3 := build_pol18
  have hc : cnt18 lvP18.devs ≤ 1000000 := by decide
  have LV := Lib.hid (lv18_start w)
  have CK : Hid (∀ W, Lv18 w W → Calls Try.prog 8 #[.agg #[.int .i64 0, .int .i64 0, .int .i64 1, .int .i64 3, .slice (some ⟨w.heap.size + 1 + 1, 0, none⟩) 2 2]] W fun e w' => e = .returned (.int .i64 0) ∧ Lv18 w w') := fun W h => (Check_any18 lvP18 _ 2 2 W h.dvs hc).mono fun e w' ⟨h1, h2⟩ => ⟨h1, h.later h2⟩
  have RF : Hid (∀ W, Lv18 w W → Calls Try.prog 19 #[.agg #[.int .i64 0, .int .i64 0, .int .i64 1, .int .i64 3, .slice (some ⟨w.heap.size + 1 + 1, 0, none⟩) 2 2]] W fun e w' => ∃ A' c', e = .returned (.slice A' 3 c') ∧ Hid (Ints w' A' 3 c' [0, 2, 0]) ∧ Hid (Below w.heap.size w w')) := fun W h => (Refs_good18 lvP18 _ 2 2 W h.dvs hc (by decide) 3 rfl (by omega)).mono fun e w' ⟨A', c', h1, h2, h3⟩ => ⟨A', c', h1, h2, h.bel.trans (h3.mono h.bel.size)⟩
  have SM : Hid (∀ W A c, Ints W A 3 c [0, 2, 0] → Below w.heap.size w W → Calls Try.prog 18 #[.slice A 3 c, .slice (some ⟨W.heap.size, 0, none⟩) 3 3] (W.alloc (.cells #[.int .i64 0, .int .i64 2, .int .i64 0] 3)) fun e w' => e = .returned (.bool true) ∧ Hid (Below w.heap.size w w')) := fun W A c h hb => by
    have ha := (Below.refl W.heap.size W).alloc (Nat.le_refl _) (.cells #[.int .i64 0, .int .i64 2, .int .i64 0] 3)
    have h2 : Ints (W.alloc (.cells #[.int .i64 0, .int .i64 2, .int .i64 0] 3)) (some ⟨W.heap.size, 0, none⟩) 3 3 [0, 2, 0] := ⟨rfl, Nat.le_refl _, by omega, Row.of_block (heap_alloc_new W _)⟩
    have hb2 := hb.trans (ha.mono hb.size)
    exact (Same_same A (some ⟨W.heap.size, 0, none⟩) 3 c 3 [0, 2, 0] _ (h.below ha) h2).mono fun e w' ⟨h3, h4⟩ => ⟨h3, hb2.trans (h4.mono hb2.size)⟩
  clear hc
  go_enter Try.func7, Try.ntmps7
  go_wp2_with (first
    | (go_at_call 8; (with_reducible refine (CK.out _ LV.out).mono ?_); rintro e w1 ⟨rfl, hl1⟩; have HL1 := Lib.hid hl1; obtain ⟨p0, p1, p2, p3, p4⟩ := hl1.pool.cs; clear hl1)
    | (go_at_call 19; (with_reducible refine (RF.out _ HL1.out).mono ?_); rintro e w2 ⟨A', c', rfl, hI, hb2⟩)
    | (go_at_call 18; (with_reducible refine (SM.out _ _ _ hI.out hb2.out).mono ?_); rintro e w5 ⟨rfl, hb5⟩))
  go_ret
  exact ⟨rfl, hb5.out⟩
end Go.Proofs.Ytlmpaelcnnnkfaa
