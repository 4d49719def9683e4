/-
  Joined: PgK, PgR, PolLv, SizA, SizB, SizP, SizLv, SizLawA, SizLawB.
-/
import Derived.Test.YtcmehjjaologpaaJSiz19
import Derived.Test.YtcmehjjaologpaaJSiz21
import Derived.Test.YtcmehjjaologpaaJSiz18
import Derived.Test.YtcmehjjaologpaaJSiz14
import Derived.Test.YtcmehjjaologpaaJSiz08
import Derived.Test.YtcmehjjaologpaaJSiz09
import Derived.Test.YtcmehjjaologpaaJSiz17
/-
  Layer 18: Check.
-/
namespace Go.Proofs.Ytcmehjjaologpaa
open Go.RowKit
set_option linter.unusedVariables false
set_option linter.unusedSimpArgs false

/-! ### the order of the errors -/
/-- mappings with their indices from k on -/
def numK18 (k : Nat) (l : List (Int × Int × Int)) : List (Nat × Int × Int × Int) := (List.range l.length).map fun i => (k + i, l.getD i (0, 0, 0))
theorem numK18_cons (k : Nat) (x : Int × Int × Int) (r : List (Int × Int × Int)) : numK18 k (x :: r) = (k, x) :: numK18 (k + 1) r := by
  unfold numK18
  rw [List.length_cons, List.range_succ_eq_map, List.map_cons, List.map_map]
  congr 1
  refine List.map_congr_left fun i _ => ?_
  simp
  omega
theorem numK18_zero (l : List (Int × Int × Int)) : numK18 0 l = num18 l := by simp [numK18, num18]
theorem errs18_numK (data : Int) : ∀ (l : List (Int × Int × Int)) (k : Nat) (last : Int), 0 < k → errs18 data last (numK18 k l) = mapsE18 data (some last) l
  | [], k, last, _ => by simp [numK18, errs18, mapsE18]
  | x :: r, k, last, hk => by
    rw [numK18_cons, errs18, mapsE18, errs18_numK data r (k + 1) x.1 (by omega)]
    have e0 : errM18 data last (k, x) = if mapR18 data x = false then 2 else if (∃ y, some last = some y ∧ x.1 ≤ y) then 8 else 0 := by
      unfold errM18
      simp [hk]
    rw [e0]
    by_cases h1 : mapR18 data x = false
    · simp only [if_pos h1]
      rw [if_pos (by decide)]
    · by_cases h2 : ∃ y, some last = some y ∧ x.1 ≤ y
      · simp only [if_neg h1, if_pos h2]
        rw [if_pos (by decide)]
      · simp only [if_neg h1, if_neg h2]
        rw [if_neg (by simp)]
theorem errs18_num (data last : Int) (l : List (Int × Int × Int)) : errs18 data last (num18 l) = mapsE18 data none l := by
  rw [← numK18_zero]
  cases l with
  | nil => rfl
  | cons x r =>
    rw [numK18_cons, errs18, mapsE18, errs18_numK data r 1 x.1 (by omega)]
    have e0 : errM18 data last (0, x) = if mapR18 data x = false then 2 else if (∃ y, (none : Option Int) = some y ∧ x.1 ≤ y) then 8 else 0 := by
      unfold errM18
      simp
    rw [e0]
    by_cases h1 : mapR18 data x = false
    · simp only [if_pos h1]
      rw [if_pos (by decide)]
    · have h2 : ¬ ∃ y, (none : Option Int) = some y ∧ x.1 ≤ y := by rintro ⟨y, hy, _⟩; cases hy
      simp only [if_neg h1, if_neg h2]
      rw [if_neg (by simp)]
theorem errs18_flat (data : Int) : ∀ (ds : List Dev18) (last : Int), errs18 data last (flat18 ds) = first18 (ds.map fun d => mapsE18 data none d.maps)
  | [], last => rfl
  | d :: r, last => by
    have e : flat18 (d :: r) = num18 d.maps ++ flat18 r := by simp [flat18]
    rw [e, errs18_append, errs18_num, errs18_flat data r, List.map_cons, first18]
theorem first18_append : ∀ (a b : List Int), first18 (a ++ b) = if first18 a ≠ 0 then first18 a else first18 b
  | [], b => by simp [first18]
  | x :: r, b => by
    rw [List.cons_append, first18, first18]
    by_cases h : x ≠ 0
    · rw [if_pos h, if_pos h, if_pos h]
    · rw [if_neg h, if_neg h, first18_append r b]
theorem chk18_snd {data : Int} {ds : List Dev18} {k : Nat} {e : Int} (h : Snd18 ds k e) : devsE18 data none ds = if errs18 data 0 (flat18 (ds.take k)) ≠ 0 then errs18 data 0 (flat18 (ds.take k)) else e := by
  obtain ⟨hj, hk⟩ := h
  have hkl : k ≤ ds.length := by rcases hk with ⟨h, _⟩ | ⟨h, _⟩ <;> omega
  have e1 : (List.range ds.length).map (devAt18 data none ds) = ((ds.take k).map fun d => mapsE18 data none d.maps) ++ ((List.range (ds.length - k)).map fun i => devAt18 data none ds (k + i)) := by
    apply List.ext_getElem
    · simp; omega
    · intro i h1 h2
      have hi : i < ds.length := by simpa using h1
      by_cases hik : i < k
      · rw [List.getElem_append_left (by simp; omega)]
        simp only [List.getElem_map, List.getElem_range, List.getElem_take]
        rw [devAt18, if_neg (by rw [hj i hik]; simp), getD18 hi]
      · rw [List.getElem_append_right (by simp; omega)]
        simp only [List.getElem_map, List.getElem_range, List.length_map, List.length_take]
        congr 1
        omega
  rw [devsE18_first, e1, first18_append, ← errs18_flat data (ds.take k) 0]
  split
  · rfl
  · rcases hk with ⟨hk, he, h0⟩ | ⟨hk, he⟩
    · obtain ⟨m, hm⟩ : ∃ m, ds.length - k = m + 1 := ⟨ds.length - k - 1, by omega⟩
      rw [hm, List.range_succ_eq_map, List.map_cons, first18, Nat.add_zero]
      have hd : devAt18 data none ds k = e := by rw [devAt18, if_pos (by rw [he]; exact h0), he]
      rw [hd, if_pos h0]
    · rw [hk, Nat.sub_self]
      exact he.symm

/-! ### devices cut -/
theorem info_dev18 : (Try.prog.info? 36).map (fun i => (i.zero, i.size, i.bytes)) = some (some (.agg #[.int .i64 0, .int .i64 0, .int .i64 0, .int .i64 0, .slice none 0 0]), 5, 56) := by kernel_rfl
theorem size_dev18 (V : World) : (sizeOf 36).run Try.prog V = .ok 5 V := by
  obtain ⟨i0, hi0, _, hz1, _⟩ := info_parts info_dev18
  simp [sizeOf, typeInfo, hi0, hz1]
theorem elem_dev18 : Try.prog.elem 22 = 36 := by kernel_rfl
theorem cut_to18 {w : World} {A : Option Addr} {n c : Nat} {l : List Dev18} (h : Dvs w A n c l) {k : Nat} (hk : k ≤ n) :
    (∀ V, (Instr.slice 22 (.slice A n c) none (some (.int .i64 (k : Int))) none).run Try.prog V = .ok (.slice A k c) V) ∧ Dvs w A k c (l.take k) := by
  have hlen := h.len
  have hcap := h.cap
  have hmost := h.most
  refine ⟨fun V => ?_, ⟨by simp [hlen]; omega, by omega, hmost, fun j hj => ?_⟩⟩
  · rw [run_slice_h (P := Try.prog) (w := V) (t := 22) (a := A) (len := n) (cap := c) (ht := by rw [elem_dev18]; exact Try.underlying22) (kh := .i64) (h := (k : Int)) (h0 := by omega) (h2 := by omega), elem_dev18, size_dev18]
    have e : (if c = 0 then A else A.map (·.add 0)) = A := by
      split
      · rfl
      · cases A with
        | none => rfl
        | some a => simp [Addr.add]
    simp only [Result.andThen, sliced, Int.toNat_natCast, Nat.sub_zero, Nat.zero_mul, e]
  · obtain ⟨ad, e, hd⟩ := h.row j (by simp at hj; omega)
    exact ⟨ad, e, by rw [List.getElem_take]; exact hd⟩

set_option maxRecDepth 100000 in
set_option maxHeartbeats 1600000 in
theorem Check_any18 (p : Pol18) (A : Option Addr) (n c : Nat) (w : World) (h : Dvs w A n c p.devs) (hc : cnt18 p.devs ≤ 1000000) :
    Calls Try.prog 16 #[polV18 p A n c] w fun e w' => e = .returned (.int .i64 (chkE18 p)) ∧ Below w.heap.size w w' := by
  obtain ⟨W0, hW0⟩ : ∃ W0, w.alloc (.cells #[.int .i64 p.tx, .int .i64 p.time, .int .i64 p.unit, .int .i64 p.data, .slice A n c] 24) = W0 := ⟨_, rfl⟩
  have hs0 : W0.heap.size = w.heap.size + 1 := by rw [← hW0]; exact World.size_alloc _ _
  have hb0 : Below w.heap.size w W0 := by rw [← hW0]; exact (Below.refl _ _).alloc (Nat.le_refl _) _
  have hR0 : W0.heap[w.heap.size]? = some (Obj.cells #[.int .i64 p.tx, .int .i64 p.time, .int .i64 p.unit, .int .i64 p.data, .slice A n c] 24 (0, 0)) := by rw [← hW0]; exact heap_alloc_new w _
  have c0 : W0.cell? ⟨w.heap.size, 0, none⟩ = some (.int .i64 p.tx) := by rw [cell_of_row W0 w.heap.size 0 _ _ _ hR0]; rfl
  have c1 : W0.cell? ⟨w.heap.size, 1, none⟩ = some (.int .i64 p.time) := by rw [cell_of_row W0 w.heap.size 1 _ _ _ hR0]; rfl
  have c2 : W0.cell? ⟨w.heap.size, 2, none⟩ = some (.int .i64 p.unit) := by rw [cell_of_row W0 w.heap.size 2 _ _ _ hR0]; rfl
  have c3 : W0.cell? ⟨w.heap.size, 3, none⟩ = some (.int .i64 p.data) := by rw [cell_of_row W0 w.heap.size 3 _ _ _ hR0]; rfl
  have c4 : W0.cell? ⟨w.heap.size, 4, none⟩ = some (.slice A n c) := by rw [cell_of_row W0 w.heap.size 4 _ _ _ hR0]; rfl
  obtain ⟨r, hr⟩ : ∃ r, (headR18 p && decide (n ≤ 4096) && decide (cnt18 p.devs ≤ 16384)) = r := ⟨_, rfl⟩
  have BD := Lib.hid (bounded_any18 p A n c W0 (h.below hb0) hc r hr.symm)
  unfold polV18 at BD
  have HB := Lib.hid hb0
  have HS0 := Lib.hid hs0
  cases r with
  | false =>
    have hv : chkE18 p = 2 := by
      cases hh : headR18 p with
      | false => exact chkE18_head hh
      | true =>
        refine chkE18_many hh ?_
        rw [hh] at hr
        have hl := h.len
        by_cases h4 : n ≤ 4096
        · have : ¬ cnt18 p.devs ≤ 16384 := by simpa [h4] using hr
          exact .inr (by omega)
        · exact .inl (by omega)
    rw [hv]
    clear hv hr h hb0 hR0 hs0
    unfold polV18
    generalize p.tx = v0 at *
    generalize p.time = v1 at *
    generalize p.unit = v2 at *
    generalize p.data = v3 at *
    go_enter Try.func16, Try.ntmps16
    go_wp2_with (go_at_call 25; (with_reducible refine (BD.out).mono ?_); rintro e w1 ⟨rfl, hb1⟩; have HB1 := Lib.hid (HB.out.trans (hb1.mono HB.out.size)); clear hb1)
    go_ret
    exact ⟨rfl, HB1.out⟩
  | true =>
    simp only [Bool.and_eq_true, decide_eq_true_eq] at hr
    obtain ⟨⟨hh, h4⟩, h16⟩ := hr
    have hdt : 0 ≤ p.data ∧ p.data ≤ 65536 := by
      have : headR18 p = true := hh
      unfold headR18 at this
      simp only [Bool.and_eq_true, in18_yes] at this
      exact this.2
    rw [chkE18_devs hh (by have := h.len; omega)]
    have SD : Hid (∀ W, Below w.heap.size w W → Calls Try.prog 26 #[.slice A n c] W fun e w' => ∃ (k : Nat) (x : Int), e = .returned (.tuple #[.int .i64 (k : Int), .int .i64 x]) ∧ Hid (Snd18 p.devs k x) ∧ k ≤ n ∧ Below W.heap.size W w') := fun W hW => sound_any18 p.devs A n c W (h.below hW)
    have MP : Hid (∀ W k, Below w.heap.size w W → k ≤ n → Calls Try.prog 27 #[.slice A k c, .int .i64 p.data] W fun e w' => e = .returned (.int .i64 (errs18 p.data 0 (flat18 (p.devs.take k)))) ∧ Hid (Below w.heap.size w w')) := fun W k hW hk => (mapped_any18 (p.devs.take k) A k c p.data W ((cut_to18 h hk).2.below hW) hdt.1 hdt.2).mono fun e w' ⟨h1, h2⟩ => ⟨h1, hW.trans (h2.mono hW.size)⟩
    have CUT : Hid (∀ k, k ≤ n → ∀ V, (Instr.slice 22 (.slice A n c) none (some (.int .i64 (k : Int))) none).run Try.prog V = .ok (.slice A k c) V) := fun k hk => (cut_to18 h hk).1
    have CH : Hid (∀ k e, Snd18 p.devs k e → devsE18 p.data none p.devs = if errs18 p.data 0 (flat18 (p.devs.take k)) ≠ 0 then errs18 p.data 0 (flat18 (p.devs.take k)) else e) := fun k e h => chk18_snd h
    clear h hb0 hR0 hs0 h4 h16 hdt hh hc
    unfold polV18
    generalize devsE18 p.data none p.devs = R at *
    generalize p.tx = v0 at *
    generalize p.time = v1 at *
    generalize p.unit = v2 at *
    generalize p.data = v3 at *
    generalize p.devs = ds at *
    go_enter Try.func16, Try.ntmps16
    go_wp2_with (first
      | (go_at_call 25; (with_reducible refine (BD.out).mono ?_); rintro e w1 ⟨rfl, hb1⟩; have HB1 := Lib.hid (HB.out.trans (hb1.mono HB.out.size)); have d3 := (hb1.cell (p := ⟨w.heap.size, 3, none⟩) (by show w.heap.size < W0.heap.size; have := HS0.out; omega)).trans c3; have d4 := (hb1.cell (p := ⟨w.heap.size, 4, none⟩) (by show w.heap.size < W0.heap.size; have := HS0.out; omega)).trans c4; have HL1 : Hid (w.heap.size < w1.heap.size) := (by have h1 := hb1.size; have h2 := HS0.out; show w.heap.size < w1.heap.size; omega); clear hb1)
      | (go_at_call 26; (with_reducible refine (SD.out _ HB1.out).mono ?_); rintro e w2 ⟨k, x, rfl, hsn, hk, hb2⟩; have HB2 := Lib.hid (HB1.out.trans (hb2.mono HB1.out.size)); have e3 := (hb2.cell (p := ⟨w.heap.size, 3, none⟩) HL1.out).trans d3; have e4 := (hb2.cell (p := ⟨w.heap.size, 4, none⟩) HL1.out).trans d4; clear hb2))
    have hCH := Lib.hid (CH.out k x hsn.out)
    have MPk := Lib.hid (fun W hW => MP.out W k hW hk)
    have hcut := CUT.out k hk
    clear MP CUT CH SD BD hsn
    generalize errs18 v3 0 (flat18 (ds.take k)) = y at *
    go_region_with (go_at_call 27; (with_reducible refine (MPk.out _ (by first | exact HB2.out | exact HB2.out.drew | exact below_drewN HB2.out _)).mono ?_); rintro e w6 ⟨rfl, hb6⟩)
    all_goals
      by_cases hy : y = 0
      · obtain rfl : R = x := by rw [hCH.out, if_neg (by rw [hy]; simp)]
        subst hy
        go_wp2
        go_ret
        exact ⟨rfl, hb6.out⟩
      · obtain rfl : R = y := by rw [hCH.out, if_pos hy]
        have hyb : (R != 0) = true := by simpa using hy
        go_wp2
        go_ret
        exact ⟨rfl, hb6.out⟩
end Go.Proofs.Ytcmehjjaologpaa

/-
  Layer 18: Refs.
-/
namespace Go.Proofs.Ytcmehjjaologpaa
open Go.RowKit Go.Shelf
set_option linter.unusedVariables false
set_option linter.unusedSimpArgs false
attribute [local go_sem] Oper.semAt_some

/-- the data blocks of mappings -/
abbrev bls18 (l : List (Nat × Int × Int × Int)) : List Int := l.map fun x => x.2.2.1
theorem bls18_flat (ds : List Dev18) : bls18 (flat18 ds) = blks18 ds := flat18_map (fun q => q.2.1) ds
theorem lst18_refs (D : Nat) (bs : List Int) (h : ∀ b ∈ bs, 0 ≤ b ∧ b < (D : Int)) : lstR12 D (keepR12 D bs) = refs18 D bs := by
  have e : keepR12 D bs = bs := by
    unfold keepR12
    rw [List.filter_eq_self]
    intro b hb
    have := h b hb
    simpa using this
  rw [e]
  rfl

/-- Refs' own variables: the counter, its variable -/
structure Rfs18 (w W : World) (B p g X N : Nat) (l : List Int) : Prop where
  cn : Cnt W B p g (lstR12 N (keepR12 N l))
  bx : Boxed W X 56 (.pointer (some ⟨p, 0, none⟩))
  bel : Below w.heap.size w W
  sz : X + 2 ≤ W.heap.size
theorem Rfs18.later {w W W' : World} {B p g X N : Nat} {l : List Int} (h : Rfs18 w W B p g X N l) (hb : Below W.heap.size W W') : Rfs18 w W' B p g X N l :=
  ⟨h.cn.later hb, (hb.block _ h.bx.lt).trans h.bx, h.bel.trans (hb.mono h.bel.size), Nat.le_trans h.sz hb.size⟩
theorem cells_other18 {X Y : World} {row : Option Nat} (hg : X.grownBy Y row) {q : Nat} {cs : Array Value} {t : TypeId} {z : Nat × Nat} (h : X.heap[q]? = some (.cells cs t z)) (hr : ∀ r, row = some r → ∃ o : Obj, X.heap[r]? = some o ∧ o.isCells = false) : Y.heap[q]? = some (.cells cs t z) :=
  (hg.block q (block_lt h) (fun e => by
    obtain ⟨o, ho, hc⟩ := hr q e.symm
    rw [h] at ho
    cases ho; cases hc)).trans h
theorem Rfs18.own (w : World) (B p g X N : Nat) {β : Type} (f : β → List Int) (C : Nat) (hC : w.heap.size ≤ C) : OwnFrom C (fun (s : β) W => Rfs18 w W B p g X N (f s)) := fun s Z Y row hs hg hr =>
  have hr2 : ∀ r, row = some r → ∃ o : Obj, Z.heap[r]? = some o ∧ o.isCells = false := fun r e => (hr r e).2
  ⟨⟨hs.cn.bp, hs.cn.ne, cells_other18 hg hs.cn.hp hr2, ⟨hs.cn.hg.low, cells_other18 hg hs.cn.hg.blk hr2⟩, hs.cn.most⟩,
    boxed_own _ _ (fun _ : Unit => Value.pointer (some ⟨p, 0, none⟩)) () Z Y row hs.bx hg hr2, ownFrom_below (β := Unit) (w₀ := w) (Nat.le_refl _) hC () Z Y row hs.bel hg hr, Nat.le_trans hs.sz hg.size⟩
theorem Rfs18.put {w W : World} {B p g X N : Nat} {l : List Int} (h : Rfs18 w W B p g X N l) {D : Nat} {o : Obj} (o' : Obj) (hD : w.heap.size ≤ D) (hl : W.heap[D]? = some o) (hc : o.isCells = false) : Rfs18 w (W.putObj D o') B p g X N l :=
  OwnFrom.putObj (Rfs18.own w B p g X N (fun _ : Unit => l) w.heap.size (Nat.le_refl _)) (s := ()) o' h hD hl hc
theorem kept_from18 {g B : Nat} {w w' : World} (h : Kept g w w') (hB : g < B) : KeepsFrom B w w' := ⟨by rw [h.size]; exact Nat.le_refl _, fun k o hk ho _ => (h.block k (by omega)).trans ho⟩

set_option maxRecDepth 100000 in
set_option maxHeartbeats 2000000 in
theorem Refs_good18 (p : Pol18) (A : Option Addr) (n c : Nat) (w : World) (h : Dvs w A n c p.devs) (hc : cnt18 p.devs ≤ 1000000) (hv : chkE18 p = 0) (D : Nat) (hD : p.data = (D : Int)) (hD2 : D ≤ 65536) :
    Calls Try.prog 30 #[polV18 p A n c] w fun e w' => ∃ A' c', e = .returned (.slice A' D c') ∧ Ints w' A' D c' (refs18 D (blks18 p.devs)) ∧ Below w.heap.size w w' := by
  obtain ⟨W0, hW0⟩ : ∃ W0, w.alloc (.cells #[.int .i64 p.tx, .int .i64 p.time, .int .i64 p.unit, .int .i64 p.data, .slice A n c] 24) = W0 := ⟨_, rfl⟩
  have hs0 : W0.heap.size = w.heap.size + 1 := by rw [← hW0]; exact World.size_alloc _ _
  have hb0 : Below w.heap.size w W0 := by rw [← hW0]; exact (Below.refl _ _).alloc (Nat.le_refl _) _
  have hR0 : W0.heap[w.heap.size]? = some (Obj.cells #[.int .i64 p.tx, .int .i64 p.time, .int .i64 p.unit, .int .i64 p.data, .slice A n c] 24 (0, 0)) := by rw [← hW0]; exact heap_alloc_new w _
  have c0 : W0.cell? ⟨w.heap.size, 0, none⟩ = some (.int .i64 p.tx) := by rw [cell_of_row W0 w.heap.size 0 _ _ _ hR0]; rfl
  have c1 : W0.cell? ⟨w.heap.size, 1, none⟩ = some (.int .i64 p.time) := by rw [cell_of_row W0 w.heap.size 1 _ _ _ hR0]; rfl
  have c2 : W0.cell? ⟨w.heap.size, 2, none⟩ = some (.int .i64 p.unit) := by rw [cell_of_row W0 w.heap.size 2 _ _ _ hR0]; rfl
  have c3 : W0.cell? ⟨w.heap.size, 3, none⟩ = some (.int .i64 p.data) := by rw [cell_of_row W0 w.heap.size 3 _ _ _ hR0]; rfl
  have c4 : W0.cell? ⟨w.heap.size, 4, none⟩ = some (.slice A n c) := by rw [cell_of_row W0 w.heap.size 4 _ _ _ hR0]; rfl
  have CK := Lib.hid (Check_any18 p A n c W0 (h.below hb0) hc)
  unfold polV18 at CK
  rw [hv] at CK
  have HR : Hid (lstR12 D (keepR12 D (bls18 (flat18 p.devs))) = refs18 D (blks18 p.devs)) := by
    rw [bls18_flat]
    exact lst18_refs D _ fun b hb => by have := blks18_in hv b hb; omega
  have HC : Hid ((flat18 p.devs).length ≤ 16384) := by
    have : ¬ (4096 < p.devs.length ∨ 16384 < cnt18 p.devs) := fun h2 => by
      unfold chkE18 at hv
      split at hv
      · cases hv
      · cases hv
    show (flat18 p.devs).length ≤ 16384
    rw [flat18_length]
    omega
  have HB := Lib.hid hb0
  have HS0 := Lib.hid hs0
  have HI := Lib.hid h
  rw [hD] at c3 CK
  clear h hb0 hR0 hv hs0
  unfold polV18
  rw [hD]
  rw [hD] at hW0
  clear hD
  generalize p.tx = v0 at *
  generalize p.time = v1 at *
  generalize p.unit = v2 at *
  generalize p.devs = ds at *
  refine (callsIn_wide (n := 2)).1 ?_
  refine callsIn_of_wp_marks Try.func30 rfl trivial ?_ rfl
  simp only [Try.ntmps30, List.size_toArray, List.length_cons, List.length_nil, Nat.reduceAdd, Nat.reduceSub, Array.replicate_succ, Array.replicate_zero, List.push_toArray, List.append_toArray, List.nil_append, List.cons_append]
  gi_wp2_with (first
    | (refine ⟨trivial, ?_⟩; gi_at_call 16; refine (callsIn_wide.2 (CK.out)).mono ?_; rintro e w1 ⟨rfl, hb1⟩; have HB1 := Lib.hid (HB.out.trans (hb1.mono HB.out.size)); have d3 := (hb1.cell (p := ⟨w.heap.size, 3, none⟩) (by show w.heap.size < W0.heap.size; have := HS0.out; omega)).trans c3; have d4 := (hb1.cell (p := ⟨w.heap.size, 4, none⟩) (by show w.heap.size < W0.heap.size; have := HS0.out; omega)).trans c4; have HL1 : Hid (w.heap.size < w1.heap.size) := (by have h1 := hb1.size; have h2 := HS0.out; show w.heap.size < w1.heap.size; omega); clear hb1)
    | (refine ⟨trivial, ?_⟩; gi_at_call 40; refine (callsIn_wide.2 (New12_good D w1 hD2)).mono ?_; rintro e w2 ⟨q, g, rfl, hcn, hb2⟩; have e4 := (hb2.cell (p := ⟨w.heap.size, 4, none⟩) HL1.out).trans d4; have HL2 : Hid (w.heap.size < w2.heap.size) := (by have h1 := hb2.size; have h2 := HL1.out; show w.heap.size < w2.heap.size; omega); have HCN := Lib.hid hcn; have HB2 := Lib.hid (HB1.out.trans (hb2.mono HB1.out.size)); have e4a := (((Below.refl w2.heap.size w2).alloc (Nat.le_refl _) (.cells #[.pointer (some ⟨q, 0, none⟩)] 56)).cell (p := ⟨w.heap.size, 4, none⟩) HL2.out).trans e4; clear hcn hb2)
    | (refine ⟨trivial, ?_⟩; gi_at_call 36; refine (callsIn_wide.2 (all_any18 _ _ _ _)).mono ?_; rintro e w' ⟨rfl, rfl⟩))
  obtain ⟨X, hX⟩ : ∃ X, X = w2.heap.size := ⟨_, rfl⟩
  obtain ⟨B, hBw⟩ : ∃ B, B = w1.heap.size := ⟨_, rfl⟩
  rw [← hBw] at HCN
  obtain ⟨W3, hW3⟩ : ∃ W3, ((w2.alloc (.cells #[.pointer (some ⟨q, 0, none⟩)] 56)).alloc (.cells #[.slice A n c] 22)) = W3 := ⟨_, rfl⟩
  have hsz : W3.heap.size = X + 2 := by rw [← hW3, hX]; simp
  have hb23 : Below w2.heap.size w2 W3 := by rw [← hW3]; exact ((Below.refl _ w2).alloc (Nat.le_refl _) _).alloc (by simp) _
  have hB3 : Below w.heap.size w W3 := HB2.out.trans (hb23.mono HB2.out.size)
  have hgX : g < X := by rw [hX]; exact HCN.out.glt
  have hwg : w.heap.size ≤ g := by have h1 := HCN.out.hg.low; have h2 := HL1.out; rw [hBw] at h1; omega
  have hwX : w.heap.size < X := by rw [hX]; exact HL2.out
  have hM0 : Rfs18 w W3 B q g X D [] := by
    refine ⟨?_, ?_, hB3, by omega⟩
    · have e : lstR12 D (keepR12 D []) = List.replicate D 0 := lstR12_nil D
      rw [e]
      exact HCN.out.later hb23
    · have := Boxed.new w2 56 (.pointer (some ⟨q, 0, none⟩))
      rw [← hW3, hX]; exact this.alloc _
  have bC : Boxed W3 (X + 1) 22 (.slice A n c) := by
    have := Boxed.new (w2.alloc (.cells #[.pointer (some ⟨q, 0, none⟩)] 56)) 22 (.slice A n c)
    rw [World.size_alloc] at this
    rw [← hW3, hX]; exact this
  simp only [hW3]
  simp only [← hX]
  clear hW3 e4a e4 d3 d4 c0 c1 c2 c3 c4 HCN HB1 HB2 HL1 HL2 hX hBw hb23 hW0 HB HS0 CK
  have HST := Lib.hid (all_stops (X + 1) w.heap.size A n c ds w W3 HI.out (Nat.le_refl _) hB3 (by omega) bC)
  have HSZ := Lib.hid hsz
  clear hsz
  refine wpIn_rangeFunc_ownH rfl (Nat.le_succ 1) (gf := 45) (lb := #[.pointer (some ⟨X + 1, 0, none⟩)]) rfl trivial (enters_of Try.func45 (by kernel_rfl) rfl)
    HST.out KpR12.trans (KpR12.put (by have := HSZ.out; omega) (by have := HSZ.out; omega)) (Below.refl _ _) (fun _ => rfl)
    (fun pre W => Rfs18 w W B q g X D (bls18 pre) ∧ pre.length ≤ cnt18 ds)
    (fun _ _ _ => False)
    (OwnFrom.and (Rfs18.own w B q g X D (fun pre => bls18 pre) _ (by have := HSZ.out; omega)) (ownFrom_pure _ _))
    (fun _ _ _ _ _ hs _ _ => hs)
    ⟨hM0, Nat.zero_le _⟩
    (fun x a' W => ∃ Bx, MapC W Bx x.2.1 x.2.2.1 x.2.2.2 ∧ a' = { tmps := #[.agg #[.int .i64 v0, .int .i64 v1, .int .i64 v2, .int .i64 (D : Int), .slice A n c], .pointer (some ⟨w.heap.size, 0, none⟩), .slice none 0 0, .pointer (some ⟨X, 0, none⟩), .int .i64 0, undef, .pointer (some ⟨Bx, 0, none⟩), .agg #[.int .i64 v0, .int .i64 v1, .int .i64 v2, .int .i64 (D : Int), .slice A n c], .int .i64 0, .bool false, .tuple #[.pointer (some ⟨q, 0, none⟩), .int .i64 0], .pointer (some ⟨w.heap.size, 3, none⟩), .int .i64 (D : Int), .tuple #[.pointer (some ⟨q, 0, none⟩), .int .i64 0], .pointer (some ⟨q, 0, none⟩), .int .i64 0, .pointer (some ⟨w.heap.size, 4, none⟩), .slice A n c, .func (.func 45) #[] #[.pointer (some ⟨X + 1, 0, none⟩)], .int .i64 (x.1 : Int), .agg #[.int .i64 x.2.1, .int .i64 x.2.2.1, .int .i64 x.2.2.2], undef, undef, undef, undef, undef, undef], defers := [] })
    (fun x a' s X Y row hs hg hr => by
      obtain ⟨Bx, e1, e2⟩ := hs
      exact ⟨Bx, mapC_own Bx _ _ _ () X Y row e1 hg (fun r e => (hr r e).2), e2⟩) ?assign ?body ?done ?stop
  case assign =>
    rintro l pre x W K ⟨hm, hn⟩ hK
    have hal := (Below.refl W.heap.size W).alloc (Nat.le_refl _) (.cells #[.int .i64 x.2.1, .int .i64 x.2.2.1, .int .i64 x.2.2.2] 38)
    have hs4 := hm.sz
    have hfin := hK { tmps := #[.agg #[.int .i64 v0, .int .i64 v1, .int .i64 v2, .int .i64 (D : Int), .slice A n c], .pointer (some ⟨w.heap.size, 0, none⟩), .slice none 0 0, .pointer (some ⟨X, 0, none⟩), .int .i64 0, undef, .pointer (some ⟨W.heap.size, 0, none⟩), .agg #[.int .i64 v0, .int .i64 v1, .int .i64 v2, .int .i64 (D : Int), .slice A n c], .int .i64 0, .bool false, .tuple #[.pointer (some ⟨q, 0, none⟩), .int .i64 0], .pointer (some ⟨w.heap.size, 3, none⟩), .int .i64 (D : Int), .tuple #[.pointer (some ⟨q, 0, none⟩), .int .i64 0], .pointer (some ⟨q, 0, none⟩), .int .i64 0, .pointer (some ⟨w.heap.size, 4, none⟩), .slice A n c, .func (.func 45) #[] #[.pointer (some ⟨X + 1, 0, none⟩)], .int .i64 (x.1 : Int), .agg #[.int .i64 x.2.1, .int .i64 x.2.2.1, .int .i64 x.2.2.2], undef, undef, undef, undef, undef, undef], defers := [] }
      (W.alloc (.cells #[.int .i64 x.2.1, .int .i64 x.2.2.1, .int .i64 x.2.2.2] 38)) ((KeepsOthers.alloc _ _).from _) ⟨hal.mono (by omega), hal.block _ (by omega)⟩
      ⟨hm.later hal, hn⟩ ⟨W.heap.size, MapC.new W _ _ _, rfl⟩
    have HFIN := Lib.hid hfin
    unfold encM18
    obtain ⟨k, v, b, t⟩ := x
    clear hK hfin hal
    gi_wp2
    exact HFIN.out
  case body =>
    rintro l pre x a' W hl hr ⟨hm, hn⟩ ⟨Bx, hbx, rfl⟩ hlt
    obtain ⟨hx0, hx1, hx2⟩ := hbx.cs
    have b1 := hm.bx.cell
    obtain ⟨k, v, b, t⟩ := x
    have hlen : (bls18 pre).length ≤ 100000 := by
      have := HC.out
      rw [flat18_length] at this
      simp only [List.length_map]
      omega
    have AD : Hid (CallsIn (Fence.wide.inRound l) 0 Try.prog 41 #[.pointer (some ⟨q, 0, none⟩), .int .i64 b] W fun e w' => (∃ u, e = .returned u) ∧ Hid (KeepsFrom W3.heap.size W w' ∧ KpR12 w.heap.size (X + 1) W w' ∧ Rfs18 w w' B q g X D (bls18 (pre ++ [(k, v, b, t)])) ∧ (pre ++ [(k, v, b, t)]).length ≤ cnt18 ds)) := by
      refine CallsIn.mono (show CallsIn (Fence.wide.inRound l) 0 _ _ _ _ _ from callsIn_wide.2 (Add12_any (N := D) (l := bls18 pre) b W hm.cn hlen)) ?_
      rintro e w' ⟨rfl, hc2, hk2⟩
      have hs4 := hm.sz
      refine ⟨⟨_, rfl⟩, kept_from18 hk2 (by have := HSZ.out; omega), ⟨hk2.below hwg, hk2.block _ (by omega)⟩, ⟨?_, (hk2.block X (by omega)).trans hm.bx, hm.bel.trans (hk2.below hwg), by rw [hk2.size]; exact hs4⟩, by simp; omega⟩
      rw [bls18, List.map_append]
      exact hc2
    clear hm hbx hlen
    gi_wp2_with (refine ⟨trivial, rfl, ?_⟩; (with_reducible refine (AD.out).mono ?_); rintro e w9 ⟨⟨u, rfl⟩, h9⟩)
    exact h9.out
  case done =>
    rintro D2 ys W hD2 rfl ⟨hm, hn⟩ hK
    have b1 := hm.bx.cell
    have hcn := hm.cn
    rw [HR.out] at hcn
    have LS := Lib.hid (List12_any W (Own12.of_cnt hcn))
    have LL : (refs18 D (blks18 ds)).length = D := refs18_length _ _
    rw [LL] at LS
    have HBW := Lib.hid hm.bel
    have hsz2 := HSZ.out
    have hKs := block_lt hK
    clear hm hcn
    gi_wp2_with (refine ⟨trivial, ?_⟩; gi_at_call 42; refine (callsIn_wide.2 LS.out).mono ?_; rintro e w9 ⟨A', c', rfl, h9, hb9, hn9⟩; have hK9 := (hb9.block _ hKs).trans hK; have H9 := Lib.hid h9; have HN9 := Lib.hid hn9; have HB9 := Lib.hid (HBW.out.trans (hb9.mono HBW.out.size)); clear h9 hn9 hb9)
    refine ⟨by simp, .inl ⟨_, _, rfl, run_takeDeferred hK9, ?_⟩⟩
    exact ⟨_, results_tmp rfl _ _ _, A', c', rfl, H9.out.newer HN9.out (fun k hk => World.putObj_heap_other (by omega)), HB9.out.trans (belowK_b (w := w) (Nat.le_refl _) w9 D2 _ _ (by omega) hK9 rfl rfl)⟩
  case stop =>
    rintro D c pre W _ _ h _
    exact h.elim
end Go.Proofs.Ytcmehjjaologpaa

/-
  Layer 18: the law's example.
-/
namespace Go.Proofs.Ytcmehjjaologpaa
open Go.RowKit
set_option linter.unusedVariables false
set_option linter.unusedSimpArgs false

/-- the example -/
def lvP18 : Pol18 := ⟨0, 0, 1, 3, [⟨1, 0, 0, 0, [(5, 1, 0)]⟩, ⟨2, 0, 0, 0, [(7, 1, 0)]⟩]⟩
structure Lv18 (w W : World) : Prop where
  pool : PolC W (w.heap.size + 1 + 1 + 1) (.int .i64 0) (.int .i64 0) (.int .i64 1) (.int .i64 3) (.slice (some ⟨w.heap.size + 1 + 1, 0, none⟩) 2 2)
  dvs : Dvs W (some ⟨w.heap.size + 1 + 1, 0, none⟩) 2 2 lvP18.devs
  bel : Below w.heap.size w W
theorem Lv18.later {w W W' : World} (h : Lv18 w W) (hb : Below W.heap.size W W') : Lv18 w W' := ⟨(hb.block _ (block_lt h.pool)).trans h.pool, h.dvs.below hb, h.bel.trans (hb.mono h.bel.size)⟩
end Go.Proofs.Ytcmehjjaologpaa

/-
  Layer 20: the program's Bitmaps, sum, mapped and shared.
-/
namespace Go.Proofs.Ytcmehjjaologpaa
open Go.RowKit
set_option linter.unusedVariables false
set_option linter.unusedSimpArgs false

set_option maxRecDepth 100000 in
theorem Bitmaps_any20 (n : Int) (hn : -9223372036854775808 ≤ n) (h2 : n ≤ 1099511627776) (w : World) : Calls Try.prog 8 #[.int .i64 n] w fun e w' => e = .returned (.int .i64 (bms20 n)) ∧ w = w' := by
  by_cases h1 : n < 1
  · rw [show bms20 n = 0 by unfold bms20; rw [if_pos h1]]
    go_enter Try.func8, Try.ntmps8
    go_wp2
    go_ret
    exact ⟨rfl, rfl⟩
  · obtain ⟨k, rfl⟩ := Int.eq_ofNat_of_zero_le (show 0 ≤ n - 1 by omega) |>.imp fun k hk => (show n = ((k + 1 : Nat) : Int) by omega)
    obtain ⟨q, hq⟩ : ∃ q : Nat, k / 960 = q := ⟨_, rfl⟩
    have hk : k ≤ 1099511627776 := by omega
    rw [show bms20 ((k + 1 : Nat) : Int) = ((q : Int) + 1) by rw [bms20_back (by omega)]; omega]
    have hd : (((k + 1 : Nat) : Int) - 1).tdiv 960 = (q : Int) := by
      rw [show ((k + 1 : Nat) : Int) - 1 = ((k : Nat) : Int) by omega, show (960 : Int) = ((960 : Nat) : Int) from rfl, ← Int.ofNat_tdiv, ← hq]
    have hq2 : q ≤ 1099511627776 := by omega
    have hm0 : ¬ ((k + 1 : Nat) : Int) < 1 := h1
    have hm2 : ((k + 1 : Nat) : Int) ≤ 1099511627777 := by omega
    have hm1 : 1 ≤ ((k + 1 : Nat) : Int) := by omega
    clear hq h2 hn h1
    generalize ((k + 1 : Nat) : Int) = x at *
    go_enter Try.func8, Try.ntmps8
    go_wp2
    go_ret
    exact ⟨rfl, rfl⟩

set_option maxRecDepth 100000 in
set_option maxHeartbeats 800000 in
theorem sum_any20 (l : List Int) (A : Option Addr) (n c : Nat) (w : World) (h : Ints w A n c l) (hb : ∀ k, 0 ≤ (l.take k).sum ∧ (l.take k).sum ≤ 1099511627776) :
    Calls Try.prog 18 #[.slice A n c] w fun e w' => e = .returned (.int .i64 l.sum) ∧ w = w' := by
  have hle := h.le
  have hl := h.len
  have HI := Lib.hid h
  have PO := Lib.hid hb
  have ALL : Hid ((l.take n).sum = l.sum) := by rw [List.take_of_length_le (by omega)]; exact Lib.hid rfl
  clear h hb
  go_enter Try.func18, Try.ntmps18
  go_wp2
  go_loopw [3, 8] (fun s i wr => ∃ k : Nat, k ≤ n ∧ i = .int .i64 k ∧ s = .int .i64 (l.take k).sum ∧ w = wr) (fun _ i _ => n - (intOf i).toNat)
  case atStart => exact ⟨0, by omega, rfl, by simp, rfl⟩
  case round =>
    obtain ⟨k, hk, rfl, rfl, rfl⟩ := hrel
    by_cases hlt : k < n
    · obtain ⟨b, off, hA, _, hc⟩ := HI.out.row.lit (by rw [i64s_length]; omega)
      have hck := hc k _ (i64s_at l k (by omega))
      subst hA
      have hS := take15_succ (L := l) (k := k) (by omega)
      obtain ⟨b1, b2⟩ := PO.out k
      obtain ⟨b3, b4⟩ := PO.out (k + 1)
      obtain ⟨s2, hs2⟩ : ∃ s2, (l.take (k + 1)).sum = s2 := ⟨_, rfl⟩
      rw [hs2] at hS b3 b4
      have HE := Lib.hid hs2
      clear hs2
      generalize l[k] = x at *
      generalize (l.take k).sum = s1 at *
      have hw : wrap64 (s1 + x) = s2 := by unfold wrap64; omega
      clear hS hc HI ALL PO
      go_wp2
      go_roundw
      case rel => exact ⟨k + 1, by omega, by simp, by rw [HE.out]; exact congrArg _ hw, trivial⟩
      case measure => simp [intOf]; omega
    · obtain rfl : k = n := by omega
      go_wp2
      go_ret
      exact ⟨by rw [ALL.out]; rfl, rfl⟩

/-- how many nodes each device's tree has -/
def nodsL20 (ds : List Dev18) : List Int := ds.map fun d => nod20 12 d.maps.length
theorem nodsL20_sum (ds : List Dev18) : (nodsL20 ds).sum = trees20 ds := rfl
theorem nodsL20_length (ds : List Dev18) : (nodsL20 ds).length = ds.length := by simp [nodsL20]
theorem nodsL20_step {ds : List Dev18} {k : Nat} (h : k < ds.length) : nodsL20 (ds.take (k + 1)) = nodsL20 (ds.take k) ++ [nod20 12 (ds.getD k zero18).maps.length] := by
  rw [List.take_succ_eq_append_getElem h, nodsL20, List.map_append, getD18 h]
  rfl

set_option maxRecDepth 100000 in
set_option maxHeartbeats 1600000 in
theorem mapped_any20 (ds : List Dev18) (A : Option Addr) (n c : Nat) (w : World) (h : Dvs w A n c ds) (hn : n ≤ 1000000) :
    Calls Try.prog 20 #[.slice A n c] w fun e w' => ∃ A' c', e = .returned (.slice A' n c') ∧ Ints w' A' n c' (nodsL20 ds) ∧ Below w.heap.size w w' := by
  have hle : n ≤ 9223372036854775807 := Nat.le_trans h.cap h.most
  have hl := h.len
  have HD := Lib.hid h
  have ND : Hid (∀ (k : Nat) W, Calls Try.prog 19 #[.int .i64 2, .int .i64 k] W fun e w' => e = .returned (.int .i64 (nod20 12 k)) ∧ Below W.heap.size W w') := fun k W => Nodes_any15 2 k 12 rfl W
  have ST := Lib.hid (fun (k : Nat) (hk : k < n) => nodsL20_step (ds := ds) (k := k) (by omega))
  have LN := Lib.hid (fun (k : Nat) (hk : k ≤ n) => show (nodsL20 (ds.take k)).length = k by rw [nodsL20_length, List.length_take]; omega)
  have ALL : Hid (nodsL20 (ds.take n) = nodsL20 ds) := by rw [List.take_of_length_le (by omega)]; exact Lib.hid rfl
  have Z0 : Hid (nodsL20 (ds.take 0) = []) := Lib.hid rfl
  clear h
  go_enter Try.func20, Try.ntmps20
  go_wp2
  go_loopw [3, 8] (fun v i wr => ∃ k : Nat, k ≤ n ∧ i = .int .i64 k ∧ Hid (wr.ownsRow w.heap.size 3 1 v k (i64s (nodsL20 (ds.take k)))) ∧ Hid (Below w.heap.size w wr)) (fun _ i _ => n - (intOf i).toNat)
  case atStart => exact ⟨0, by omega, rfl, by rw [Z0.out]; exact Lib.hid (World.ownsRow_nil _ _ _ _), Below.refl _ _⟩
  case round =>
    obtain ⟨k, hk, rfl, hown, hbel⟩ := hrel
    by_cases hlt : k < n
    · obtain ⟨b, off, A', m, c', rfl, hb, d0, d1, d2, d3, d4, hT⟩ := HD.out.at18 hlt
      have g0 := (hbel.out.cell (p := ⟨b, off + k * 5, none⟩) hb).trans d0
      have g1 := (hbel.out.cell (p := ⟨b, off + k * 5 + 1, none⟩) hb).trans d1
      have g2 := (hbel.out.cell (p := ⟨b, off + k * 5 + 2, none⟩) hb).trans d2
      have g3 := (hbel.out.cell (p := ⟨b, off + k * 5 + 3, none⟩) hb).trans d3
      have g4 := (hbel.out.cell (p := ⟨b, off + k * 5 + 4, none⟩) hb).trans d4
      have hst := ST.out k hlt
      rw [hT.len] at hst
      have HST := Lib.hid hst
      have HBN := fun o => Lib.hid (hbel.out.alloc hbel.out.size o)
      have HON := fun o => Lib.hid (hown.out.alloc o)
      have HSZ := fun o => Lib.hid (show w.heap.size ≤ (wr.alloc o).heap.size by rw [World.size_alloc]; exact Nat.le_succ_of_le hbel.out.size)
      have NDm := Lib.hid (ND.out m)
      clear hst d0 d1 d2 d3 d4 hT ST LN ALL Z0 ND hown
      generalize nodsL20 (ds.take k) = l at *
      generalize nod20 12 m = x at *
      generalize (ds.getD k zero18) = d at *
      go_wp2_with (first
        | (go_at_call 19; (with_reducible refine (NDm.out _).mono ?_); rintro e w4 ⟨rfl, hb4⟩; have HO4 := own_below (HON _) hb4; have HB4 := Lib.hid ((HBN _).out.trans (hb4.mono (HSZ _).out)); have hs4 := HB4.out.size; clear hb4)
        | (at_builtin; go_must (refine wpList_append_new w4 rfl _ _ 42 rfl w.heap.size 3 3 (.int .i64 0) 8 Try.underlying42 info_i64 rfl u3 k _ rfl HO4 hs4 [.int .i64 x] 1 1 rfl rfl (by simp [Value.oneCell']) (by omega) (by omega) ?_); intro v2 w2 hown2 hs2 hb2; have hb3 := Lib.hid (HB4.out.trans hb2); clear hb2))
      go_roundw
      case rel => exact ⟨k + 1, by omega, by push_cast; rfl, by rw [HST.out, i64s_append]; exact hown2, hb3⟩
      case measure => simp only [intOf]; omega
    · obtain rfl : k = n := by omega
      have hall := ALL.out
      rw [hall] at hown
      go_wp2
      go_ret
      obtain ⟨A2, c2, rfl, hI2⟩ := Ints.of_own hown.out
      exact ⟨_, _, rfl, hI2, hbel.out⟩

set_option maxRecDepth 100000 in
set_option maxHeartbeats 800000 in
theorem shared_any20 (p : Pol18) (A : Option Addr) (n c : Nat) (w : World) (h : Dvs w A n c p.devs) (hv : chkE18 p = 0) (D : Nat) (hD : p.data = (D : Int)) (hD65 : D ≤ 65536) :
    Calls Try.prog 21 #[polV18 p A n c] w fun e w' => e = .returned (.int .i64 (often20 D (blks18 p.devs) : Int)) ∧ Below w.heap.size w w' := by
  obtain ⟨_, _, hcn, _⟩ := chk20_parts hv
  obtain ⟨W0, hW0⟩ : ∃ W0, w.alloc (.cells #[.int .i64 p.tx, .int .i64 p.time, .int .i64 p.unit, .int .i64 p.data, .slice A n c] 24) = W0 := ⟨_, rfl⟩
  have hV0 : Vp20 w W0 (.int .i64 p.tx) (.int .i64 p.time) (.int .i64 p.unit) (.int .i64 p.data) (.slice A n c) := by rw [← hW0]; exact Vp20.new w _ _ _ _ _
  have RF := Lib.hid (Refs_good18 p A n c W0 (h.below hV0.bel) (by omega) hv D hD hD65)
  unfold polV18 at RF
  obtain ⟨c0, c1, c2, c3, c4⟩ := hV0.row.cs
  have HV := Lib.hid hV0
  obtain ⟨O, hO⟩ : ∃ O, often20 D (blks18 p.devs) = O := ⟨_, rfl⟩
  have OA : Hid (((refs18 D (blks18 p.devs)).take D).countP (fun c => decide (3 ≤ c)) = O) := by
    have : (refs18 D (blks18 p.devs)).length = D := refs18_length _ _
    rw [List.take_of_length_le (by omega), ← often20_refs]
    exact Lib.hid hO
  have OS : Hid (∀ k, k < D → ((refs18 D (blks18 p.devs)).take (k + 1)).countP (fun c => decide (3 ≤ c)) = ((refs18 D (blks18 p.devs)).take k).countP (fun c => decide (3 ≤ c)) + if 3 ≤ (refs18 D (blks18 p.devs)).getD k 0 then 1 else 0) := fun k hk => by
    have := countP20_take (l := refs18 D (blks18 p.devs)) (k := k) (fun c => decide (3 ≤ c)) (by rw [refs18_length]; exact hk)
    simpa using this
  have LL : (refs18 D (blks18 p.devs)).length = D := refs18_length _ _
  rw [hO]
  clear h hV0 hv hO hD hcn
  unfold polV18
  generalize refs18 D (blks18 p.devs) = L at *
  generalize p.tx = v0 at *
  generalize p.time = v1 at *
  generalize p.unit = v2 at *
  generalize p.data = v3 at *
  go_enter Try.func21, Try.ntmps21
  go_wp2_with (go_at_call 30; (with_reducible refine (RF.out).mono ?_); rintro e w5 ⟨A', c', rfl, hI, hb5⟩; have HI := Lib.hid hI; have HB5 := Lib.hid (HV.out.later hb5).bel; clear hb5 hI)
  have hcap := HI.out.cap
  have hmost := HI.out.most
  clear RF c0 c1 c2 c3 c4
  go_loopw [3, 9] (fun s i wr => ∃ j : Nat, j ≤ D ∧ i = .int .i64 j ∧ s = .int .i64 (((L.take j).countP (fun c => decide (3 ≤ c)) : Nat) : Int) ∧ w5 = wr) (fun _ i _ => D - (intOf i).toNat)
  case atStart => exact ⟨0, by omega, rfl, rfl, rfl⟩
  case round =>
    obtain ⟨j, hj, rfl, rfl, rfl⟩ := hrel
    by_cases hlj : j < D
    · obtain ⟨b', off, hA, _, hc⟩ := HI.out.row.lit (by rw [i64s_length]; omega)
      have hck := hc j _ (i64s_at L j (by omega))
      have hos := OS.out j hlj
      rw [getD18 (by omega)] at hos
      have hcl : (L.take j).countP (fun c => decide (3 ≤ c)) ≤ 65536 := Nat.le_trans List.countP_le_length (by rw [List.length_take]; omega)
      subst hA
      obtain ⟨z, hz⟩ : ∃ z, (L.take (j + 1)).countP (fun c => decide (3 ≤ c)) = z := ⟨_, rfl⟩
      have HZ := Lib.hid hz
      rw [hz] at hos
      clear hz hc OS OA
      generalize (L.take j).countP (fun c => decide (3 ≤ c)) = q at *
      by_cases h3 : 3 ≤ L[j]
      · rw [if_pos h3] at hos
        subst hos
        generalize L[j] = xx at *
        go_wp2
        go_roundw
        case rel => exact ⟨j + 1, by omega, by push_cast; rfl, by rw [HZ.out]; push_cast; rfl, trivial⟩
        case measure => simp [intOf]; omega
      · rw [if_neg h3] at hos
        subst hos
        generalize L[j] = xx at *
        go_wp2
        go_roundw
        case rel => exact ⟨j + 1, by omega, by push_cast; rfl, by rw [HZ.out], trivial⟩
        case measure => simp [intOf]; omega
    · obtain rfl : j = D := by omega
      have hoa := OA.out
      rw [hoa]
      clear hoa OS OA
      go_wp2
      go_ret
      exact ⟨rfl, HB5.out⟩
end Go.Proofs.Ytcmehjjaologpaa

/-
  Layer 20: the program's Base.
-/
namespace Go.Proofs.Ytcmehjjaologpaa
open Go.RowKit
set_option linter.unusedVariables false
set_option linter.unusedSimpArgs false

/-- sum of terms just built -/
theorem sum_built20 (l : List Int) (w : World) (hn : l.length ≤ 1000) (hb : ∀ k, 0 ≤ (l.take k).sum ∧ (l.take k).sum ≤ 1099511627776) :
    Calls Try.prog 18 #[.slice (some ⟨w.heap.size, 0, none⟩) l.length l.length] (w.alloc (.cells (i64s l).toArray 3)) fun e w' => e = .returned (.int .i64 l.sum) ∧ w.alloc (.cells (i64s l).toArray 3) = w' :=
  sum_any20 l (some ⟨w.heap.size, 0, none⟩) l.length l.length _ ⟨rfl, Nat.le_refl _, Nat.le_trans hn (by decide), Row.of_block (heap_alloc_new w _)⟩ hb
theorem sums20 {l : List Int} {M : Int} (h : ∀ x ∈ l, 0 ≤ x) (hM : l.sum ≤ M) (k : Nat) : 0 ≤ (l.take k).sum ∧ (l.take k).sum ≤ M := by
  have hs : ∀ l : List Int, (∀ x ∈ l, 0 ≤ x) → 0 ≤ l.sum := by
    intro l
    induction l with
    | nil => intro _; simp
    | cons x r ih =>
      intro h
      have h1 := h x (List.mem_cons_self ..)
      have h2 := ih fun y hy => h y (List.mem_cons_of_mem _ hy)
      rw [List.sum_cons]
      omega
  have h1 := hs (l.take k) fun x hx => h x (List.mem_of_mem_take hx)
  have h2 := hs (l.drop k) fun x hx => h x (List.mem_of_mem_drop hx)
  have h3 : l.sum = (l.take k).sum + (l.drop k).sum := by rw [← List.sum_append, List.take_append_drop]
  omega

set_option maxRecDepth 100000 in
set_option maxHeartbeats 800000 in
theorem Base_bad20 (p : Pol18) (A : Option Addr) (n c : Nat) (w : World) (h : Dvs w A n c p.devs) (hc : cnt18 p.devs ≤ 1000000) (hv : chkE18 p ≠ 0) :
    Calls Try.prog 10 #[polV18 p A n c] w fun e w' => e = .returned (.int .i64 0) ∧ Below w.heap.size w w' := by
  obtain ⟨W0, hW0⟩ : ∃ W0, w.alloc (.cells #[.int .i64 p.tx, .int .i64 p.time, .int .i64 p.unit, .int .i64 p.data, .slice A n c] 24) = W0 := ⟨_, rfl⟩
  have hV0 : Vp20 w W0 (.int .i64 p.tx) (.int .i64 p.time) (.int .i64 p.unit) (.int .i64 p.data) (.slice A n c) := by rw [← hW0]; exact Vp20.new w _ _ _ _ _
  have CK := Lib.hid (Check_any18 p A n c W0 (h.below hV0.bel) hc)
  unfold polV18 at CK
  have c4 := hV0.row.cs
  obtain ⟨c0, c1, c2, c3, c4⟩ := c4
  have HB := Lib.hid hV0.bel
  have hyb : (chkE18 p != 0) = true := by simpa using hv
  clear h hV0 hv
  unfold polV18
  generalize chkE18 p = y at *
  generalize p.tx = v0 at *
  generalize p.time = v1 at *
  generalize p.unit = v2 at *
  generalize p.data = v3 at *
  go_enter Try.func10, Try.ntmps10
  go_wp2_with (go_at_call 16; (with_reducible refine (CK.out).mono ?_); rintro e w1 ⟨rfl, hb1⟩; have HB1 := Lib.hid (HB.out.trans (hb1.mono HB.out.size)); clear hb1)
  go_ret
  exact ⟨rfl, HB1.out⟩

set_option maxRecDepth 100000 in
set_option maxHeartbeats 1600000 in
theorem Base_good20 (p : Pol18) (A : Option Addr) (n c : Nat) (w : World) (h : Dvs w A n c p.devs) (hv : chkE18 p = 0) :
    Calls Try.prog 10 #[polV18 p A n c] w fun e w' => e = .returned (.int .i64 (sum20 p)) ∧ Below w.heap.size w w' := by
  obtain ⟨_, hd4, hcn, _⟩ := chk20_parts hv
  obtain ⟨hD0, hD1⟩ := chk20_data hv
  obtain ⟨D, hD⟩ := Int.eq_ofNat_of_zero_le hD0
  obtain ⟨B, hB⟩ := Int.eq_ofNat_of_zero_le (bms20_nonneg p.data)
  have hB1 : B ≤ 69 := by have := bms20_few hD1; omega
  have hle : n ≤ 9223372036854775807 := Nat.le_trans h.cap h.most
  have hl := h.len
  have hn4 : n ≤ 4096 := by omega
  have hD65 : D ≤ 65536 := by omega
  have CK : Hid (∀ W, Vp20 w W (.int .i64 p.tx) (.int .i64 p.time) (.int .i64 p.unit) (.int .i64 D) (.slice A n c) → Calls Try.prog 16 #[.agg #[.int .i64 p.tx, .int .i64 p.time, .int .i64 p.unit, .int .i64 D, .slice A n c]] W fun e w' => e = .returned (.int .i64 0) ∧ Hid (Vp20 w w' (.int .i64 p.tx) (.int .i64 p.time) (.int .i64 p.unit) (.int .i64 D) (.slice A n c))) := fun W hV => by
    have := Check_any18 p A n c W (h.below hV.bel) (by omega)
    unfold polV18 at this
    rw [hv, hD] at this
    refine this.mono ?_
    rintro e w' ⟨rfl, hb⟩
    exact ⟨rfl, hV.later hb⟩
  obtain ⟨O, hO⟩ : ∃ O, often20 D (blks18 p.devs) = O := ⟨_, rfl⟩
  have hO2 : O ≤ 16384 := by
    have := chk20_often hv
    rw [hD] at this
    simp only [Int.ofNat_eq_natCast, Int.toNat_natCast] at this
    omega
  have SH : Hid (∀ W, Vp20 w W (.int .i64 p.tx) (.int .i64 p.time) (.int .i64 p.unit) (.int .i64 D) (.slice A n c) → Calls Try.prog 21 #[.agg #[.int .i64 p.tx, .int .i64 p.time, .int .i64 p.unit, .int .i64 D, .slice A n c]] W fun e w' => e = .returned (.int .i64 O) ∧ Hid (Vp20 w w' (.int .i64 p.tx) (.int .i64 p.time) (.int .i64 p.unit) (.int .i64 D) (.slice A n c))) := fun W hV => by
    have := shared_any20 p A n c W (h.below hV.bel) hv D hD hD65
    unfold polV18 at this
    rw [hO, hD] at this
    refine this.mono ?_
    rintro e w' ⟨rfl, hb⟩
    exact ⟨rfl, hV.later hb⟩
  have MP : Hid (∀ W, Vp20 w W (.int .i64 p.tx) (.int .i64 p.time) (.int .i64 p.unit) (.int .i64 D) (.slice A n c) → Calls Try.prog 20 #[.slice A n c] W fun e w' => ∃ A' c', e = .returned (.slice A' n c') ∧ Hid (Ints w' A' n c' (nodsL20 p.devs)) ∧ Hid (Vp20 w w' (.int .i64 p.tx) (.int .i64 p.time) (.int .i64 p.unit) (.int .i64 D) (.slice A n c))) := fun W hV => by
    refine (mapped_any20 p.devs A n c W (h.below hV.bel) (by omega)).mono ?_
    rintro e w' ⟨A', c', rfl, hI, hb⟩
    exact ⟨A', c', rfl, hI, hV.later hb⟩
  obtain ⟨t1, t2⟩ := trees20_few hd4 hcn n
  have TA : trees20 (p.devs.take n) = trees20 p.devs := by rw [List.take_of_length_le (by omega)]
  rw [TA] at t1 t2
  have SM : Hid (∀ W A' c', Ints W A' n c' (nodsL20 p.devs) → Calls Try.prog 18 #[.slice A' n c'] W fun e w' => e = .returned (.int .i64 (trees20 p.devs)) ∧ W = w') := fun W A' c' hI => by
    rw [← nodsL20_sum]
    refine sum_any20 (nodsL20 p.devs) A' n c' W hI (sums20 ?_ (by rw [nodsL20_sum]; omega))
    intro x hx
    obtain ⟨d, _, rfl⟩ := List.mem_map.1 hx
    exact nod20_nonneg _ _
  have ND : Hid (∀ (tree : Int) (m : Nat), capN (widN tree true) = m → ∀ (k : Nat) W, Vp20 w W (.int .i64 p.tx) (.int .i64 p.time) (.int .i64 p.unit) (.int .i64 D) (.slice A n c) → Calls Try.prog 19 #[.int .i64 tree, .int .i64 k] W fun e w' => e = .returned (.int .i64 (nod20 m k)) ∧ Hid (Vp20 w w' (.int .i64 p.tx) (.int .i64 p.time) (.int .i64 p.unit) (.int .i64 D) (.slice A n c))) := fun tree m hm k W hV => by
    refine (Nodes_any15 tree k m hm W).mono ?_
    rintro e w' ⟨rfl, hb⟩
    exact ⟨rfl, hV.later hb⟩
  have BM : Hid (∀ W, Calls Try.prog 8 #[.int .i64 D] W fun e w' => e = .returned (.int .i64 B) ∧ W = w') := fun W => by
    have := Bitmaps_any20 p.data (by omega) (by omega) W
    rw [hB, hD] at this
    exact this
  have hsum : sum20 p = 1 + nod20 6 n + nod20 18 n + trees20 p.devs + nod20 9 B + nod20 18 O + B := by
    unfold sum20
    rw [hB, hD, hl]
    simp only [Int.ofNat_eq_natCast, Int.toNat_natCast, hO]
  rw [hsum]
  obtain ⟨a1, a2⟩ := nod20_few (m := 6) (n := n) (by decide) (by omega)
  obtain ⟨b1, b2⟩ := nod20_few (m := 18) (n := n) (by decide) (by omega)
  obtain ⟨x1, x2⟩ := nod20_few (m := 9) (n := B) (by decide) (by omega)
  obtain ⟨y1, y2⟩ := nod20_few (m := 18) (n := O) (by decide) (by omega)
  have S7 : Hid (∀ W, Vp20 w W (.int .i64 p.tx) (.int .i64 p.time) (.int .i64 p.unit) (.int .i64 D) (.slice A n c) → Calls Try.prog 18 #[.slice (some ⟨W.heap.size, 0, none⟩) 7 7] (W.alloc (.cells #[.int .i64 1, .int .i64 B, .int .i64 (nod20 6 n), .int .i64 (nod20 18 n), .int .i64 (trees20 p.devs), .int .i64 (nod20 9 B), .int .i64 (nod20 18 O)] 3)) fun e w' => e = .returned (.int .i64 (1 + nod20 6 n + nod20 18 n + trees20 p.devs + nod20 9 B + nod20 18 O + B)) ∧ Hid (Vp20 w w' (.int .i64 p.tx) (.int .i64 p.time) (.int .i64 p.unit) (.int .i64 D) (.slice A n c))) := fun W hV => by
    have := sum_built20 [1, (B : Int), nod20 6 n, nod20 18 n, trees20 p.devs, nod20 9 B, nod20 18 O] W (by simp) (sums20 (by
      intro x hx
      simp only [List.mem_cons, List.not_mem_nil, or_false] at hx
      omega) (by simp only [List.sum_cons, List.sum_nil]; omega))
    refine this.mono ?_
    rintro e w' ⟨rfl, rfl⟩
    refine ⟨ret_int (by simp only [List.sum_cons, List.sum_nil]; omega), hV.later ((Below.refl _ _).alloc (Nat.le_refl _) _)⟩
  have ND3 : Hid (∀ W, _ → Calls Try.prog 19 #[.int .i64 3, .int .i64 n] W _) := Lib.hid (ND.out 3 6 rfl n)
  have ND1 : Hid (∀ W, _ → Calls Try.prog 19 #[.int .i64 1, .int .i64 n] W _) := Lib.hid (ND.out 1 18 rfl n)
  have ND4 : Hid (∀ W, _ → Calls Try.prog 19 #[.int .i64 4, .int .i64 B] W _) := Lib.hid (ND.out 4 9 rfl B)
  have ND5 : Hid (∀ W, _ → Calls Try.prog 19 #[.int .i64 5, .int .i64 O] W _) := Lib.hid (ND.out 5 18 rfl O)
  obtain ⟨W0, hW0⟩ : ∃ W0, w.alloc (.cells #[.int .i64 p.tx, .int .i64 p.time, .int .i64 p.unit, .int .i64 p.data, .slice A n c] 24) = W0 := ⟨_, rfl⟩
  have hV0 : Vp20 w W0 (.int .i64 p.tx) (.int .i64 p.time) (.int .i64 p.unit) (.int .i64 D) (.slice A n c) := by rw [← hW0, hD]; exact Vp20.new w _ _ _ _ _
  have HV0 := Lib.hid hV0
  obtain ⟨c0, c1, c2, c3, c4⟩ := hV0.row.cs
  clear h hv hd4 hcn hD0 hD1 ND hV0 hO hB hsum TA
  unfold polV18
  rw [hD] at *
  generalize nod20 6 n = a at *
  generalize nod20 18 n = b at *
  generalize nod20 9 B = x at *
  generalize nod20 18 O = y at *
  generalize trees20 p.devs = t at *
  generalize nodsL20 p.devs = L at *
  generalize 1 + a + b + t + x + y + (B : Int) = tot at *
  generalize p.tx = v0 at *
  generalize p.time = v1 at *
  generalize p.unit = v2 at *
  generalize p.devs = ds at *
  go_enter Try.func10, Try.ntmps10
  go_wp2_with (first
    | (go_at_call 16; (with_reducible refine (CK.out _ HV0.out).mono ?_); rintro e w1 ⟨rfl, hV1⟩; obtain ⟨d0, d1, d2, d3, d4⟩ := hV1.out.row.cs)
    | (go_at_call 8; (with_reducible refine (BM.out _).mono ?_); rintro e w2 ⟨rfl, rfl⟩))
  have hV1d := Lib.hid (hV1.out.later (Below.refl _ _).drew)
  have hf1 := hV1d.out.row.cs
  clear c0 c1 c2 c3 c4 CK BM
  go_region_held3 (fun W => (W.cell? ⟨w.heap.size, 0, none⟩ = some (.int .i64 v0) ∧ W.cell? ⟨w.heap.size, 1, none⟩ = some (.int .i64 v1) ∧ W.cell? ⟨w.heap.size, 2, none⟩ = some (.int .i64 v2) ∧ W.cell? ⟨w.heap.size, 3, none⟩ = some (.int .i64 D) ∧ W.cell? ⟨w.heap.size, 4, none⟩ = some (.slice A n c)))
    (first
      | exact (hV8.out.later ((Below.refl _ _).alloc (Nat.le_refl _) _)).row.cs
      | exact hV9.out.row.cs
      | exact hV8.out.row.cs
      | exact hV7.out.row.cs
      | exact hV6.out.row.cs
      | exact hV4.out.row.cs
      | exact hV3.out.row.cs
      | exact hV2.out.row.cs
      | exact hf1)
    (first
      | (go_at_call 19; first
        | ((with_reducible refine (ND3.out _ hV1d.out).mono ?_); rintro e w2 ⟨rfl, hV2⟩)
        | ((with_reducible refine (ND1.out _ hV2.out).mono ?_); rintro e w3 ⟨rfl, hV3⟩)
        | ((with_reducible refine (ND4.out _ hV4.out).mono ?_); rintro e w6 ⟨rfl, hV6⟩)
        | ((with_reducible refine (ND5.out _ hV7.out).mono ?_); rintro e w8 ⟨rfl, hV8⟩))
      | (go_at_call 20; (with_reducible refine (MP.out _ hV3.out).mono ?_); rintro e w4 ⟨A4, c4, rfl, hI4, hV4⟩)
      | (go_at_call 21; (with_reducible refine (SH.out _ hV6.out).mono ?_); rintro e w7 ⟨rfl, hV7⟩)
      | (go_at_call 18; first
        | ((with_reducible refine (SM.out _ _ _ hI4.out).mono ?_); rintro e w5 ⟨rfl, rfl⟩)
        | ((with_reducible refine (S7.out _ hV8.out).mono ?_); rintro e w9 ⟨rfl, hV9⟩)))
  go_wp2
  go_ret
  exact ⟨rfl, hV9.out.bel⟩
theorem Base_any20 (p : Pol18) (A : Option Addr) (n c : Nat) (w : World) (h : Dvs w A n c p.devs) (hc : cnt18 p.devs ≤ 1000000) :
    Calls Try.prog 10 #[polV18 p A n c] w fun e w' => e = .returned (.int .i64 (base20 p)) ∧ Below w.heap.size w w' := by
  by_cases hv : chkE18 p = 0
  · rw [(base20_good hv).1]
    exact Base_good20 p A n c w h hv
  · rw [(base20_bad hv).1]
    exact Base_bad20 p A n c w h hc hv
end Go.Proofs.Ytcmehjjaologpaa

/-
  Layer 20: the program's Need and Fits.
-/
namespace Go.Proofs.Ytcmehjjaologpaa
open Go.RowKit
set_option linter.unusedVariables false
set_option linter.unusedSimpArgs false

set_option maxRecDepth 100000 in
set_option maxHeartbeats 800000 in
theorem Need_any20 (p : Pol18) (A : Option Addr) (n c : Nat) (w : World) (h : Dvs w A n c p.devs) (hc : cnt18 p.devs ≤ 1000000) :
    Calls Try.prog 12 #[polV18 p A n c] w fun e w' => e = .returned (.int .i64 (needL20 p)) ∧ Below w.heap.size w w' := by
  obtain ⟨W0, hW0⟩ : ∃ W0, w.alloc (.cells #[.int .i64 p.tx, .int .i64 p.time, .int .i64 p.unit, .int .i64 p.data, .slice A n c] 24) = W0 := ⟨_, rfl⟩
  have hV0 : Vp20 w W0 (.int .i64 p.tx) (.int .i64 p.time) (.int .i64 p.unit) (.int .i64 p.data) (.slice A n c) := by rw [← hW0]; exact Vp20.new w _ _ _ _ _
  have BS := Lib.hid (Base_any20 p A n c W0 (h.below hV0.bel) hc)
  unfold polV18 at BS
  obtain ⟨c0, c1, c2, c3, c4⟩ := hV0.row.cs
  have HV := Lib.hid hV0
  by_cases hv : chkE18 p = 0
  · rw [(base20_good hv).2]
    rw [(base20_good hv).1] at BS
    obtain ⟨s1, s2⟩ := sum20_bounds hv
    clear h hV0 hv
    unfold polV18
    generalize p.tx = v0 at *
    generalize p.time = v1 at *
    generalize p.unit = v2 at *
    generalize p.data = v3 at *
    generalize sum20 p = s at *
    have hyb : (s == 0) = false := by simpa using (show s ≠ 0 by omega)
    have n1 := need20_more (base := s) (by omega)
    have n2 := need20_max (base := s) (by omega) s2
    have LE := Lib.hid (fun i (hi : i < need20 s) => need20_less (base := s) (by omega) hi)
    have UN := Lib.hid (fun i (hi : i ≤ need20 s) => need20_under (base := s) (by omega) hi)
    have RO := Lib.hid (need20_room (base := s) (by omega))
    have BM := Lib.hid Bitmaps_any20
    have BN := Lib.hid bms20_nonneg
    have S2 : Hid (∀ W : World, Calls Try.prog 18 #[.slice (some ⟨W.heap.size, 0, none⟩) 2 2] (W.alloc (.cells #[.int .i64 s, .int .i64 2] 3)) fun e w' => e = .returned (.int .i64 (s + 2)) ∧ Below W.heap.size W w') := fun W => by
      refine (sum_built20 [s, 2] W (by simp) (sums20 (by
        intro x hx
        simp only [List.mem_cons, List.not_mem_nil, or_false] at hx
        omega) (by simp only [List.sum_cons, List.sum_nil]; omega))).mono ?_
      rintro e w' ⟨rfl, rfl⟩
      exact ⟨ret_int (by simp only [List.sum_cons, List.sum_nil]; omega), (Below.refl _ _).alloc (Nat.le_refl _) _⟩
    have S3 : Hid (∀ (g : Int) (W : World), 0 ≤ g → g ≤ 14400 → Calls Try.prog 18 #[.slice (some ⟨W.heap.size, 0, none⟩) 3 3] (W.alloc (.cells #[.int .i64 s, .int .i64 2, .int .i64 g] 3)) fun e w' => e = .returned (.int .i64 (s + 2 + g)) ∧ Below W.heap.size W w') := fun g W h0 h1 => by
      refine (sum_built20 [s, 2, g] W (by simp) (sums20 (by
        intro x hx
        simp only [List.mem_cons, List.not_mem_nil, or_false] at hx
        omega) (by simp only [List.sum_cons, List.sum_nil]; omega))).mono ?_
      rintro e w' ⟨rfl, rfl⟩
      exact ⟨ret_int (by simp only [List.sum_cons, List.sum_nil]; omega), (Below.refl _ _).alloc (Nat.le_refl _) _⟩
    generalize need20 s = N at *
    go_enter Try.func12, Try.ntmps12
    go_wp2_with (first
      | (go_at_call 10; (with_reducible refine (BS.out).mono ?_); rintro e w1 ⟨rfl, hb1⟩; have HB1 := Lib.hid (HV.out.later hb1).bel; clear hb1)
      | (go_at_call 18; (with_reducible refine (S2.out _).mono ?_); rintro e w2 ⟨rfl, hb2⟩; have HB2 := Lib.hid (HB1.out.trans (hb2.mono HB1.out.size)); clear hb2))
    go_loopw [4] (fun i wr => ∃ k : Int, s + 2 ≤ k ∧ k ≤ N ∧ i = .int .i64 k ∧ Hid (Below w.heap.size w wr)) (fun i _ => (N - intOf i).toNat)
    case atStart => exact ⟨s + 2, by omega, by omega, rfl, HB2⟩
    case round =>
      clear HB1 HB2
      obtain ⟨k, hk0, hk1, rfl, hbel⟩ := hrel
      have hu := UN.out k hk1
      have hb0 := BN.out k
      by_cases hlt : k < N
      · have hl := LE.out k hlt
        have BK := Lib.hid (fun W => BM.out k (by omega) (by omega) W)
        clear LE UN RO BM BN S2
        generalize bms20 k = g at *
        have SG := Lib.hid (fun W => S3.out g W (by omega) (by omega))
        clear S3
        generalize hk2 : s + 2 + g = k2 at *
        go_wp2_with (first
          | (go_at_call 8; (with_reducible refine (BK.out _).mono ?_); rintro e w2 ⟨rfl, rfl⟩)
          | (go_at_call 18; (with_reducible refine (SG.out _).mono ?_); first | (rintro e w4 ⟨rfl, hb4⟩; have HB4 := Lib.hid (HB3.out.trans (hb4.mono HB3.out.size)); clear hb4) | (rintro e w3 ⟨rfl, hb3⟩; have HB3 := Lib.hid (hbel.out.trans (hb3.mono hbel.out.size)); clear hb3)))
        go_roundw
        case rel => exact ⟨k2, by omega, by omega, rfl, HB4⟩
        case measure => simp [intOf]; omega
      · obtain rfl : k = N := by omega
        have hl := RO.out
        have BK := Lib.hid (fun W => BM.out k (by omega) (by omega) W)
        clear LE UN RO BM BN S2
        generalize bms20 k = g at *
        have SG := Lib.hid (fun W => S3.out g W (by omega) (by omega))
        clear S3
        rw [hl] at SG
        go_wp2_with (first
          | (go_at_call 8; (with_reducible refine (BK.out _).mono ?_); rintro e w2 ⟨rfl, rfl⟩)
          | (go_at_call 18; (with_reducible refine (SG.out _).mono ?_); rintro e w3 ⟨rfl, hb3⟩; have HB3 := Lib.hid (hbel.out.trans (hb3.mono hbel.out.size)); clear hb3))
        go_ret
        exact ⟨rfl, HB3.out⟩
  · rw [(base20_bad hv).2]
    rw [(base20_bad hv).1] at BS
    clear h hV0 hv
    unfold polV18
    generalize p.tx = v0 at *
    generalize p.time = v1 at *
    generalize p.unit = v2 at *
    generalize p.data = v3 at *
    go_enter Try.func12, Try.ntmps12
    go_wp2_with (go_at_call 10; (with_reducible refine (BS.out).mono ?_); rintro e w1 ⟨rfl, hb1⟩; have HB1 := Lib.hid (HV.out.later hb1).bel; clear hb1)
    go_ret
    exact ⟨rfl, HB1.out⟩

set_option maxRecDepth 100000 in
set_option maxHeartbeats 800000 in
theorem Fits_any20 (p : Pol18) (A : Option Addr) (n c : Nat) (m : Int) (w : World) (h : Dvs w A n c p.devs) (hc : cnt18 p.devs ≤ 1000000) :
    Calls Try.prog 14 #[polV18 p A n c, .int .i64 m] w fun e w' => e = .returned (.bool (fit20 p m)) ∧ Below w.heap.size w w' := by
  obtain ⟨W0, hW0⟩ : ∃ W0, w.alloc (.cells #[.int .i64 p.tx, .int .i64 p.time, .int .i64 p.unit, .int .i64 p.data, .slice A n c] 24) = W0 := ⟨_, rfl⟩
  have hV0 : Vp20 w W0 (.int .i64 p.tx) (.int .i64 p.time) (.int .i64 p.unit) (.int .i64 p.data) (.slice A n c) := by rw [← hW0]; exact Vp20.new w _ _ _ _ _
  have NE := Lib.hid (Need_any20 p A n c W0 (h.below hV0.bel) hc)
  unfold polV18 at NE
  obtain ⟨c0, c1, c2, c3, c4⟩ := hV0.row.cs
  have HV := Lib.hid hV0
  by_cases hv : chkE18 p = 0
  · rw [fit20_good hv]
    have hN : 0 < needL20 p := by
      rw [(base20_good hv).2]
      obtain ⟨s1, s2⟩ := sum20_bounds hv
      have := need20_more (base := sum20 p) (by omega)
      omega
    clear h hV0 hv
    unfold polV18
    generalize needL20 p = N at *
    generalize p.tx = v0 at *
    generalize p.time = v1 at *
    generalize p.unit = v2 at *
    generalize p.data = v3 at *
    by_cases h1 : N ≤ m
    · rw [decide_eq_true h1, Bool.true_and]
      go_enter Try.func14, Try.ntmps14
      go_wp2_with (go_at_call 12; (with_reducible refine (NE.out).mono ?_); rintro e w2 ⟨rfl, hb2⟩; have HB2 := Lib.hid (HV.out.later hb2).bel; clear hb2)
      go_ret
      exact ⟨rfl, HB2.out⟩
    · rw [decide_eq_false h1, Bool.false_and]
      go_enter Try.func14, Try.ntmps14
      go_wp2_with (go_at_call 12; (with_reducible refine (NE.out).mono ?_); rintro e w2 ⟨rfl, hb2⟩; have HB2 := Lib.hid (HV.out.later hb2).bel; clear hb2)
      go_ret
      exact ⟨rfl, HB2.out⟩
  · rw [fit20_bad hv]
    rw [(base20_bad hv).2] at NE
    clear h hV0 hv
    unfold polV18
    generalize p.tx = v0 at *
    generalize p.time = v1 at *
    generalize p.unit = v2 at *
    generalize p.data = v3 at *
    go_enter Try.func14, Try.ntmps14
    go_wp2_with (go_at_call 12; (with_reducible refine (NE.out).mono ?_); rintro e w2 ⟨rfl, hb2⟩; have HB2 := Lib.hid (HV.out.later hb2).bel; clear hb2)
    go_ret
    exact ⟨rfl, HB2.out⟩
end Go.Proofs.Ytcmehjjaologpaa

/-
  Layer 20: the law's example.
-/
namespace Go.Proofs.Ytcmehjjaologpaa
open Go.RowKit
set_option linter.unusedVariables false
set_option linter.unusedSimpArgs false

theorem build_pol20 (x : Int) (w : World) : (Instr.build 24 #[(2, .int .i64 x)]).run Try.prog w = .ok (.agg #[.int .i64 0, .int .i64 0, .int .i64 x, .int .i64 0, .slice none 0 0]) w := run_build w _ _ _ (by kernel_rfl)
def lvP20 : Pol18 := ⟨0, 0, 1, 0, []⟩
theorem nod20_none {m : Nat} (hm : 1 ≤ m) : nod20 m 0 = 1 := by
  have h1 := nod20_le (m := m) (n := 0) hm (by omega)
  have h2 := nod20_pos (m := m) (n := 0) hm (by omega)
  have h3 : (max 0 1 - 1) / m = 0 := Nat.zero_div m
  rw [h3] at h1
  omega
theorem lv20_chk : chkE18 lvP20 = 0 := by decide
theorem lv20_sum : sum20 lvP20 = 5 := by
  have e : sum20 lvP20 = 1 + nod20 6 0 + nod20 18 0 + 0 + nod20 9 0 + nod20 18 0 + 0 := rfl
  rw [e, nod20_none (by decide), nod20_none (by decide), nod20_none (by decide)]
  rfl
theorem lv20_base : base20 lvP20 = 5 := by rw [(base20_good lv20_chk).1, lv20_sum]
theorem lv20_need : needL20 lvP20 = 8 := by rw [(base20_good lv20_chk).2, lv20_sum]; rfl

set_option maxRecDepth 100000 in
theorem lives20_any (w : World) : Calls Try.prog 7 #[] w fun e w' => e = .returned (.bool true) ∧ Below w.heap.size w w' := by
  have b1 := build_pol20
  have hc : cnt18 lvP20.devs ≤ 1000000 := by decide
  have LV := Lib.hid (Vp20.new w (.int .i64 0) (.int .i64 0) (.int .i64 1) (.int .i64 0) (.slice none 0 0))
  have BS : Hid (∀ W, Hid (Vp20 w W (.int .i64 0) (.int .i64 0) (.int .i64 1) (.int .i64 0) (.slice none 0 0)) → Calls Try.prog 10 #[.agg #[.int .i64 0, .int .i64 0, .int .i64 1, .int .i64 0, .slice none 0 0]] W fun e w' => e = .returned (.int .i64 5) ∧ Hid (Vp20 w w' (.int .i64 0) (.int .i64 0) (.int .i64 1) (.int .i64 0) (.slice none 0 0))) := fun W h => by
    have := Base_any20 lvP20 none 0 0 W (Dvs.nil W) hc
    rw [lv20_base] at this
    exact this.mono fun e w' ⟨h1, h2⟩ => ⟨h1, h.out.later h2⟩
  have NE : Hid (∀ W, Hid (Vp20 w W (.int .i64 0) (.int .i64 0) (.int .i64 1) (.int .i64 0) (.slice none 0 0)) → Calls Try.prog 12 #[.agg #[.int .i64 0, .int .i64 0, .int .i64 1, .int .i64 0, .slice none 0 0]] W fun e w' => e = .returned (.int .i64 8) ∧ Hid (Below w.heap.size w w')) := fun W h => by
    have := Need_any20 lvP20 none 0 0 W (Dvs.nil W) hc
    rw [lv20_need] at this
    exact this.mono fun e w' ⟨h1, h2⟩ => ⟨h1, (h.out.later h2).bel⟩
  clear hc
  go_enter Try.func7, Try.ntmps7
  go_wp2_with (first
    | (go_at_call 10; (with_reducible refine (BS.out _ LV).mono ?_); rintro e w1 ⟨rfl, HV1⟩; obtain ⟨d0, d1, d2, d3, d4⟩ := HV1.out.row.cs)
    | (go_at_call 12; (with_reducible refine (NE.out _ HV1).mono ?_); rintro e w2 ⟨rfl, HB2⟩))
  go_ret
  exact ⟨rfl, HB2.out⟩
end Go.Proofs.Ytcmehjjaologpaa

/-
  Layer 20: SizeTells.
-/
namespace Go.Proofs.Ytcmehjjaologpaa
open Go.RowKit
set_option linter.unusedVariables false
set_option linter.unusedSimpArgs false

set_option maxRecDepth 100000 in
set_option maxHeartbeats 3200000 in
theorem sizetells_walk (A : Option Addr) (n c : Nat) (p : Pol18) (m : Int) (w : World) (h : Dvs w A n c p.devs) (hbd : p.bd) (hm : -9223372036854775808 ≤ m ∧ m ≤ 9223372036854775807) :
    Calls Try.prog 3 #[polV18 p A n c, .int .i64 m] w fun e w' => e = .returned (.bool true) ∧ Below w.heap.size w w' := by
  obtain ⟨W0, hW0⟩ : ∃ W0, w.alloc (.cells #[.int .i64 p.tx, .int .i64 p.time, .int .i64 p.unit, .int .i64 p.data, .slice A n c] 24) = W0 := ⟨_, rfl⟩
  have hV0 : Vp20 w W0 (.int .i64 p.tx) (.int .i64 p.time) (.int .i64 p.unit) (.int .i64 p.data) (.slice A n c) := by rw [← hW0]; exact Vp20.new w _ _ _ _ _
  have HV0 := Lib.hid hV0
  have FW : Hid (∀ W, Hid (Vp20 w W (.int .i64 p.tx) (.int .i64 p.time) (.int .i64 p.unit) (.int .i64 p.data) (.slice A n c)) → Calls Try.prog 6 #[polV18 p A n c] W fun e w' => e = .returned (.int .i64 (if few18 p = true then 1 else 0)) ∧ Hid (Vp20 w w' (.int .i64 p.tx) (.int .i64 p.time) (.int .i64 p.unit) (.int .i64 p.data) (.slice A n c))) := fun W hV => (Few_any18 p A n c W (h.below hV.out.bel) (fun d hd => (hbd.2.2.2.2.1 d hd).2.2.2.2.2)).mono fun e w' ⟨h1, h2⟩ => ⟨h1, hV.out.later h2⟩
  have LV : Hid (∀ W, Hid (Vp20 w W (.int .i64 p.tx) (.int .i64 p.time) (.int .i64 p.unit) (.int .i64 p.data) (.slice A n c)) → Calls Try.prog 7 #[] W fun e w' => e = .returned (.bool true) ∧ Hid (Vp20 w w' (.int .i64 p.tx) (.int .i64 p.time) (.int .i64 p.unit) (.int .i64 p.data) (.slice A n c))) := fun W hV => (lives20_any W).mono fun e w' ⟨h1, h2⟩ => ⟨h1, hV.out.later h2⟩
  obtain ⟨c0, c1, c2, c3, c4⟩ := hV0.row.cs
  unfold polV18 at FW
  cases hf : few18 p with
  | false =>
    rw [hf] at FW
    clear h hbd hV0 hf hm
    unfold polV18
    go_enter Try.func3, Try.ntmps3
    go_wp2_with (first
      | (go_at_call 6; (with_reducible refine (FW.out _ HV0).mono ?_); rintro e w1 ⟨rfl, HV1⟩)
      | (go_at_call 7; (with_reducible refine (LV.out _ HV1).mono ?_); rintro e w2 ⟨rfl, HV2⟩))
    go_ret
    exact ⟨rfl, HV2.out.bel⟩
  | true =>
    rw [hf] at FW
    by_cases hm2 : m ≤ 1099511627776
    · obtain ⟨hf1, hf2⟩ := few18_yes.1 hf
      have hc : cnt18 p.devs ≤ 1000000 := by omega
      have BM : Hid (∀ W, Hid (Vp20 w W (.int .i64 p.tx) (.int .i64 p.time) (.int .i64 p.unit) (.int .i64 p.data) (.slice A n c)) → Calls Try.prog 8 #[.int .i64 m] W fun e w' => e = .returned (.int .i64 (bms20 m)) ∧ Hid (Vp20 w w' (.int .i64 p.tx) (.int .i64 p.time) (.int .i64 p.unit) (.int .i64 p.data) (.slice A n c))) := fun W hV => (Bitmaps_any20 m hm.1 hm2 W).mono fun e w' ⟨h1, h2⟩ => ⟨h1, h2 ▸ hV⟩
      have RBM : Hid (∀ W, Hid (Vp20 w W (.int .i64 p.tx) (.int .i64 p.time) (.int .i64 p.unit) (.int .i64 p.data) (.slice A n c)) → Calls Try.prog 9 #[.int .i64 m] W fun e w' => e = .returned (.int .i64 (bms20 m)) ∧ Hid (Vp20 w w' (.int .i64 p.tx) (.int .i64 p.time) (.int .i64 p.unit) (.int .i64 p.data) (.slice A n c))) := fun W hV => (refBitmaps_any20 m hm.1 hm2 W).mono fun e w' ⟨h1, h2⟩ => ⟨h1, h2 ▸ hV⟩
      have BS : Hid (∀ W, Hid (Vp20 w W (.int .i64 p.tx) (.int .i64 p.time) (.int .i64 p.unit) (.int .i64 p.data) (.slice A n c)) → Calls Try.prog 10 #[polV18 p A n c] W fun e w' => e = .returned (.int .i64 (base20 p)) ∧ Hid (Vp20 w w' (.int .i64 p.tx) (.int .i64 p.time) (.int .i64 p.unit) (.int .i64 p.data) (.slice A n c))) := fun W hV => (Base_any20 p A n c W (h.below hV.out.bel) hc).mono fun e w' ⟨h1, h2⟩ => ⟨h1, hV.out.later h2⟩
      have RBS : Hid (∀ W, Hid (Vp20 w W (.int .i64 p.tx) (.int .i64 p.time) (.int .i64 p.unit) (.int .i64 p.data) (.slice A n c)) → Calls Try.prog 11 #[polV18 p A n c] W fun e w' => e = .returned (.int .i64 (base20 p)) ∧ Hid (Vp20 w w' (.int .i64 p.tx) (.int .i64 p.time) (.int .i64 p.unit) (.int .i64 p.data) (.slice A n c))) := fun W hV => (refBase_any20 p A n c W (h.below hV.out.bel) hc).mono fun e w' ⟨h1, h2⟩ => ⟨h1, hV.out.later h2⟩
      have NE : Hid (∀ W, Hid (Vp20 w W (.int .i64 p.tx) (.int .i64 p.time) (.int .i64 p.unit) (.int .i64 p.data) (.slice A n c)) → Calls Try.prog 12 #[polV18 p A n c] W fun e w' => e = .returned (.int .i64 (needL20 p)) ∧ Hid (Vp20 w w' (.int .i64 p.tx) (.int .i64 p.time) (.int .i64 p.unit) (.int .i64 p.data) (.slice A n c))) := fun W hV => (Need_any20 p A n c W (h.below hV.out.bel) hc).mono fun e w' ⟨h1, h2⟩ => ⟨h1, hV.out.later h2⟩
      have RNE : Hid (∀ W, Hid (Vp20 w W (.int .i64 p.tx) (.int .i64 p.time) (.int .i64 p.unit) (.int .i64 p.data) (.slice A n c)) → Calls Try.prog 13 #[polV18 p A n c] W fun e w' => e = .returned (.int .i64 (needL20 p)) ∧ Hid (Vp20 w w' (.int .i64 p.tx) (.int .i64 p.time) (.int .i64 p.unit) (.int .i64 p.data) (.slice A n c))) := fun W hV => (refNeed_any20 p A n c W (h.below hV.out.bel) hc).mono fun e w' ⟨h1, h2⟩ => ⟨h1, hV.out.later h2⟩
      have FT : Hid (∀ W, Hid (Vp20 w W (.int .i64 p.tx) (.int .i64 p.time) (.int .i64 p.unit) (.int .i64 p.data) (.slice A n c)) → Calls Try.prog 14 #[polV18 p A n c, .int .i64 m] W fun e w' => e = .returned (.bool (fit20 p m)) ∧ Hid (Vp20 w w' (.int .i64 p.tx) (.int .i64 p.time) (.int .i64 p.unit) (.int .i64 p.data) (.slice A n c))) := fun W hV => (Fits_any20 p A n c m W (h.below hV.out.bel) hc).mono fun e w' ⟨h1, h2⟩ => ⟨h1, hV.out.later h2⟩
      have RFT : Hid (∀ W, Hid (Vp20 w W (.int .i64 p.tx) (.int .i64 p.time) (.int .i64 p.unit) (.int .i64 p.data) (.slice A n c)) → Calls Try.prog 15 #[polV18 p A n c, .int .i64 m] W fun e w' => e = .returned (.bool (fit20 p m)) ∧ Hid (Vp20 w w' (.int .i64 p.tx) (.int .i64 p.time) (.int .i64 p.unit) (.int .i64 p.data) (.slice A n c))) := fun W hV => (refFits_any20 p A n c m W (h.below hV.out.bel) hc).mono fun e w' ⟨h1, h2⟩ => ⟨h1, hV.out.later h2⟩
      unfold polV18 at BS RBS NE RNE FT RFT
      clear h hbd hV0 hf hm hf1 hf2 hc
      unfold polV18
      generalize bms20 m = y0 at *
      generalize base20 p = y1 at *
      generalize needL20 p = y2 at *
      generalize fit20 p m = y3 at *
      go_enter Try.func3, Try.ntmps3
      go_wp2_with (go_at_call 6; (with_reducible refine (FW.out _ HV0).mono ?_); rintro e w1 ⟨rfl, HV1⟩)
      have HV2 := Lib.hid (HV1.out.later (Below.refl _ _).drew)
      have d2 := HV2.out.row.cs
      clear FW HV0 HV1 c0 c1 c2 c3 c4
      go_region_held3 (fun W => W.cell? ⟨w.heap.size, 0, none⟩ = some (.int .i64 p.tx) ∧ W.cell? ⟨w.heap.size, 1, none⟩ = some (.int .i64 p.time) ∧ W.cell? ⟨w.heap.size, 2, none⟩ = some (.int .i64 p.unit) ∧ W.cell? ⟨w.heap.size, 3, none⟩ = some (.int .i64 p.data) ∧ W.cell? ⟨w.heap.size, 4, none⟩ = some (.slice A n c))
        (assumption)
        (first
          | (go_at_call 8; (with_reducible refine (BM.out _ HV2).mono ?_); rintro e w3 ⟨rfl, HV3⟩; have d3 := HV3.out.row.cs)
          | (go_at_call 9; (with_reducible refine (RBM.out _ HV3).mono ?_); rintro e w4 ⟨rfl, HV4⟩; have d4 := HV4.out.row.cs)
          | (go_at_call 10; (with_reducible refine (BS.out _ HV4).mono ?_); rintro e w5 ⟨rfl, HV5⟩; have d5 := HV5.out.row.cs)
          | (go_at_call 11; (with_reducible refine (RBS.out _ HV5).mono ?_); rintro e w6 ⟨rfl, HV6⟩; have d6 := HV6.out.row.cs)
          | (go_at_call 12; (with_reducible refine (NE.out _ HV6).mono ?_); rintro e w7 ⟨rfl, HV7⟩; have d7 := HV7.out.row.cs)
          | (go_at_call 13; (with_reducible refine (RNE.out _ HV7).mono ?_); rintro e w8 ⟨rfl, HV8⟩; have d8 := HV8.out.row.cs)
          | (go_at_call 14; (with_reducible refine (FT.out _ HV8).mono ?_); rintro e w9 ⟨rfl, HV9⟩; have d9 := HV9.out.row.cs)
          | (go_at_call 15; (with_reducible refine (RFT.out _ HV9).mono ?_); rintro e w10 ⟨rfl, HV10⟩; have d10 := HV10.out.row.cs)
          | (go_at_call 7; (with_reducible refine (LV.out _ HV10).mono ?_); rintro e w11 ⟨rfl, HV11⟩; have d11 := HV11.out.row.cs))
      go_wp2
      go_ret
      exact ⟨rfl, HV11.out.bel⟩
    · clear h hbd hV0 hf hm
      unfold polV18
      go_enter Try.func3, Try.ntmps3
      go_wp2_with (first
        | (go_at_call 6; (with_reducible refine (FW.out _ HV0).mono ?_); rintro e w1 ⟨rfl, HV1⟩)
        | (go_at_call 7; (with_reducible refine (LV.out _ HV1).mono ?_); rintro e w2 ⟨rfl, HV2⟩))
      go_ret
      exact ⟨rfl, HV2.out.bel⟩
end Go.Proofs.Ytcmehjjaologpaa

/-
  Layer 20: SizeLeast.
-/
namespace Go.Proofs.Ytcmehjjaologpaa
open Go.RowKit
set_option linter.unusedVariables false
set_option linter.unusedSimpArgs false

set_option maxRecDepth 100000 in
set_option maxHeartbeats 3200000 in
theorem sizeleast_walk (A : Option Addr) (n c : Nat) (p : Pol18) (w : World) (h : Dvs w A n c p.devs) (hbd : p.bd) :
    Calls Try.prog 4 #[polV18 p A n c] w fun e w' => e = .returned (.bool true) ∧ Below w.heap.size w w' := by
  obtain ⟨W0, hW0⟩ : ∃ W0, w.alloc (.cells #[.int .i64 p.tx, .int .i64 p.time, .int .i64 p.unit, .int .i64 p.data, .slice A n c] 24) = W0 := ⟨_, rfl⟩
  have hV0 : Vp20 w W0 (.int .i64 p.tx) (.int .i64 p.time) (.int .i64 p.unit) (.int .i64 p.data) (.slice A n c) := by rw [← hW0]; exact Vp20.new w _ _ _ _ _
  have HV0 := Lib.hid hV0
  have FW : Hid (∀ W, Hid (Vp20 w W (.int .i64 p.tx) (.int .i64 p.time) (.int .i64 p.unit) (.int .i64 p.data) (.slice A n c)) → Calls Try.prog 6 #[polV18 p A n c] W fun e w' => e = .returned (.int .i64 (if few18 p = true then 1 else 0)) ∧ Hid (Vp20 w w' (.int .i64 p.tx) (.int .i64 p.time) (.int .i64 p.unit) (.int .i64 p.data) (.slice A n c))) := fun W hV => (Few_any18 p A n c W (h.below hV.out.bel) (fun d hd => (hbd.2.2.2.2.1 d hd).2.2.2.2.2)).mono fun e w' ⟨h1, h2⟩ => ⟨h1, hV.out.later h2⟩
  have LV : Hid (∀ W, Hid (Vp20 w W (.int .i64 p.tx) (.int .i64 p.time) (.int .i64 p.unit) (.int .i64 p.data) (.slice A n c)) → Calls Try.prog 7 #[] W fun e w' => e = .returned (.bool true) ∧ Hid (Vp20 w w' (.int .i64 p.tx) (.int .i64 p.time) (.int .i64 p.unit) (.int .i64 p.data) (.slice A n c))) := fun W hV => (lives20_any W).mono fun e w' ⟨h1, h2⟩ => ⟨h1, hV.out.later h2⟩
  obtain ⟨c0, c1, c2, c3, c4⟩ := hV0.row.cs
  unfold polV18 at FW
  cases hf : few18 p with
  | false =>
    rw [hf] at FW
    clear h hbd hV0 hf
    unfold polV18
    go_enter Try.func4, Try.ntmps4
    go_wp2_with (first
      | (go_at_call 6; (with_reducible refine (FW.out _ HV0).mono ?_); rintro e w1 ⟨rfl, HV1⟩)
      | (go_at_call 7; (with_reducible refine (LV.out _ HV1).mono ?_); rintro e w2 ⟨rfl, HV2⟩))
    go_ret
    exact ⟨rfl, HV2.out.bel⟩
  | true =>
    rw [hf] at FW
    obtain ⟨hf1, hf2⟩ := few18_yes.1 hf
    have hc : cnt18 p.devs ≤ 1000000 := by omega
    have NE : Hid (∀ W, Hid (Vp20 w W (.int .i64 p.tx) (.int .i64 p.time) (.int .i64 p.unit) (.int .i64 p.data) (.slice A n c)) → Calls Try.prog 12 #[polV18 p A n c] W fun e w' => e = .returned (.int .i64 (needL20 p)) ∧ Hid (Vp20 w w' (.int .i64 p.tx) (.int .i64 p.time) (.int .i64 p.unit) (.int .i64 p.data) (.slice A n c))) := fun W hV => (Need_any20 p A n c W (h.below hV.out.bel) hc).mono fun e w' ⟨h1, h2⟩ => ⟨h1, hV.out.later h2⟩
    have BS : Hid (∀ W, Hid (Vp20 w W (.int .i64 p.tx) (.int .i64 p.time) (.int .i64 p.unit) (.int .i64 p.data) (.slice A n c)) → Calls Try.prog 10 #[polV18 p A n c] W fun e w' => e = .returned (.int .i64 (base20 p)) ∧ Hid (Vp20 w w' (.int .i64 p.tx) (.int .i64 p.time) (.int .i64 p.unit) (.int .i64 p.data) (.slice A n c))) := fun W hV => (Base_any20 p A n c W (h.below hV.out.bel) hc).mono fun e w' ⟨h1, h2⟩ => ⟨h1, hV.out.later h2⟩
    have CK : Hid (∀ W, Hid (Vp20 w W (.int .i64 p.tx) (.int .i64 p.time) (.int .i64 p.unit) (.int .i64 p.data) (.slice A n c)) → Calls Try.prog 16 #[polV18 p A n c] W fun e w' => e = .returned (.int .i64 (chkE18 p)) ∧ Hid (Vp20 w w' (.int .i64 p.tx) (.int .i64 p.time) (.int .i64 p.unit) (.int .i64 p.data) (.slice A n c))) := fun W hV => (Check_any18 p A n c W (h.below hV.out.bel) hc).mono fun e w' ⟨h1, h2⟩ => ⟨h1, hV.out.later h2⟩
    have FT : Hid (∀ W (m : Int), Hid (Vp20 w W (.int .i64 p.tx) (.int .i64 p.time) (.int .i64 p.unit) (.int .i64 p.data) (.slice A n c)) → Calls Try.prog 14 #[polV18 p A n c, .int .i64 m] W fun e w' => e = .returned (.bool (fit20 p m)) ∧ Hid (Vp20 w w' (.int .i64 p.tx) (.int .i64 p.time) (.int .i64 p.unit) (.int .i64 p.data) (.slice A n c))) := fun W m hV => (Fits_any20 p A n c m W (h.below hV.out.bel) hc).mono fun e w' ⟨h1, h2⟩ => ⟨h1, hV.out.later h2⟩
    unfold polV18 at NE BS CK FT
    have BMA := Lib.hid Bitmaps_any20
    by_cases hv : chkE18 p = 0
    · obtain ⟨s1, s2⟩ := sum20_bounds hv
      rw [(base20_good hv).2] at NE
      rw [(base20_good hv).1] at BS
      rw [hv] at CK
      have n1 := need20_more (base := sum20 p) (by omega)
      have n2 := need20_max (base := sum20 p) (by omega) s2
      have n3 := need20_less (base := sum20 p) (n := need20 (sum20 p) - 1) (by omega) (by omega)
      have n4 := need20_room (base := sum20 p) (by omega)
      have e1 : fit20 p (need20 (sum20 p)) = true := by rw [fit20_good hv, (base20_good hv).2, decide_eq_true (Int.le_refl _), decide_eq_true n2]; rfl
      have e2 : fit20 p (need20 (sum20 p) - 1) = false := by rw [fit20_good hv, (base20_good hv).2, decide_eq_false (by omega)]; rfl
      have e3 : fit20 p 14400 = true := by rw [fit20_good hv, (base20_good hv).2, decide_eq_true n2]; rfl
      have e4 : fit20 p 14401 = false := by rw [fit20_good hv, decide_eq_false (show ¬ (14401 : Int) ≤ 14400 by omega), Bool.and_false]
      have F1 := Lib.hid (fun W hV => FT.out W (need20 (sum20 p)) hV)
      have F2 := Lib.hid (fun W hV => FT.out W (need20 (sum20 p) - 1) hV)
      have F3 := Lib.hid (fun W hV => FT.out W 14400 hV)
      have F4 := Lib.hid (fun W hV => FT.out W 14401 hV)
      rw [e1] at F1
      rw [e2] at F2
      rw [e3] at F3
      rw [e4] at F4
      have b0 := bms20_nonneg (need20 (sum20 p))
      have b1 := bms20_nonneg (need20 (sum20 p) - 1)
      have b2 := bms20_few (n := need20 (sum20 p)) (by omega)
      have b3 := bms20_few (n := need20 (sum20 p) - 1) (by omega)
      have B1 : Hid (∀ W, Hid (Vp20 w W (.int .i64 p.tx) (.int .i64 p.time) (.int .i64 p.unit) (.int .i64 p.data) (.slice A n c)) → Calls Try.prog 8 #[.int .i64 (need20 (sum20 p))] W fun e w' => e = .returned (.int .i64 (bms20 (need20 (sum20 p)))) ∧ Hid (Vp20 w w' (.int .i64 p.tx) (.int .i64 p.time) (.int .i64 p.unit) (.int .i64 p.data) (.slice A n c))) := fun W hV => (BMA.out _ (by omega) (by omega) W).mono fun e w' ⟨h1, h2⟩ => ⟨h1, h2 ▸ hV⟩
      have B2 : Hid (∀ W, Hid (Vp20 w W (.int .i64 p.tx) (.int .i64 p.time) (.int .i64 p.unit) (.int .i64 p.data) (.slice A n c)) → Calls Try.prog 8 #[.int .i64 (need20 (sum20 p) - 1)] W fun e w' => e = .returned (.int .i64 (bms20 (need20 (sum20 p) - 1))) ∧ Hid (Vp20 w w' (.int .i64 p.tx) (.int .i64 p.time) (.int .i64 p.unit) (.int .i64 p.data) (.slice A n c))) := fun W hV => (BMA.out _ (by omega) (by omega) W).mono fun e w' ⟨h1, h2⟩ => ⟨h1, h2 ▸ hV⟩
      clear h hbd hV0 hf hf1 hf2 hc FT BMA hv e1 e2 e3 e4
      unfold polV18
      generalize bms20 (need20 (sum20 p)) = g1 at *
      generalize bms20 (need20 (sum20 p) - 1) = g2 at *
      generalize need20 (sum20 p) = N at *
      generalize sum20 p = s at *
      have hw1 : IntKind.i64.wrap (N - 1) = N - 1 := IntWalk.i64_in _ (by omega)
      go_enter Try.func4, Try.ntmps4
      go_wp2_with (go_at_call 6; (with_reducible refine (FW.out _ HV0).mono ?_); rintro e w1 ⟨rfl, HV1⟩)
      have HV2 := Lib.hid (HV1.out.later (Below.refl _ _).drew)
      have d2 := HV2.out.row.cs
      clear FW HV0 HV1 c0 c1 c2 c3 c4
      go_region_held3 (fun W => W.cell? ⟨w.heap.size, 0, none⟩ = some (.int .i64 p.tx) ∧ W.cell? ⟨w.heap.size, 1, none⟩ = some (.int .i64 p.time) ∧ W.cell? ⟨w.heap.size, 2, none⟩ = some (.int .i64 p.unit) ∧ W.cell? ⟨w.heap.size, 3, none⟩ = some (.int .i64 p.data) ∧ W.cell? ⟨w.heap.size, 4, none⟩ = some (.slice A n c))
        (assumption)
        (first
          | (go_at_call 12; (with_reducible refine (NE.out _ HV2).mono ?_); rintro e w3 ⟨rfl, HV3⟩; have d3 := HV3.out.row.cs)
          | (go_at_call 10; (with_reducible refine (BS.out _ HV3).mono ?_); rintro e w4 ⟨rfl, HV4⟩; have d4 := HV4.out.row.cs))
      obtain ⟨c0, c1, c2, c3, c4⟩ := HV4.out.row.cs
      clear d2 d3 d4
      go_wp2_with (first
        | (go_at_call 16; (with_reducible refine (CK.out _ HV4).mono ?_); rintro e w5 ⟨rfl, HV5⟩; clear c0 c1 c2 c3 c4; obtain ⟨c0, c1, c2, c3, c4⟩ := HV5.out.row.cs)
        | (go_at_call 8; first
          | ((with_reducible refine (B2.out _ HV6).mono ?_); rintro e w7 ⟨rfl, HV7⟩; clear c0 c1 c2 c3 c4; obtain ⟨c0, c1, c2, c3, c4⟩ := HV7.out.row.cs)
          | ((with_reducible refine (B1.out _ HV5).mono ?_); rintro e w6 ⟨rfl, HV6⟩; clear c0 c1 c2 c3 c4; obtain ⟨c0, c1, c2, c3, c4⟩ := HV6.out.row.cs))
        | (go_at_call 14; first
          | ((with_reducible refine (F4.out _ HV10).mono ?_); rintro e w11 ⟨rfl, HV11⟩; clear c0 c1 c2 c3 c4; obtain ⟨c0, c1, c2, c3, c4⟩ := HV11.out.row.cs)
          | ((with_reducible refine (F3.out _ HV9).mono ?_); rintro e w10 ⟨rfl, HV10⟩; clear c0 c1 c2 c3 c4; obtain ⟨c0, c1, c2, c3, c4⟩ := HV10.out.row.cs)
          | ((with_reducible refine (F2.out _ HV8).mono ?_); rintro e w9 ⟨rfl, HV9⟩; clear c0 c1 c2 c3 c4; obtain ⟨c0, c1, c2, c3, c4⟩ := HV9.out.row.cs)
          | ((with_reducible refine (F1.out _ HV7).mono ?_); rintro e w8 ⟨rfl, HV8⟩; clear c0 c1 c2 c3 c4; obtain ⟨c0, c1, c2, c3, c4⟩ := HV8.out.row.cs))
        | (go_at_call 7; (with_reducible refine (LV.out _ HV11).mono ?_); rintro e w12 ⟨rfl, HV12⟩))
      go_ret
      exact ⟨rfl, HV12.out.bel⟩
    · rw [(base20_bad hv).2] at NE
      rw [(base20_bad hv).1] at BS
      have F1 := Lib.hid (fun W hV => FT.out W 1000 hV)
      rw [fit20_bad hv] at F1
      have hyb : (chkE18 p != 0) = true := by simpa using hv
      clear h hbd hV0 hf hf1 hf2 hc FT BMA hv
      unfold polV18
      generalize chkE18 p = y at *
      go_enter Try.func4, Try.ntmps4
      go_wp2_with (go_at_call 6; (with_reducible refine (FW.out _ HV0).mono ?_); rintro e w1 ⟨rfl, HV1⟩)
      have HV2 := Lib.hid (HV1.out.later (Below.refl _ _).drew)
      have d2 := HV2.out.row.cs
      clear FW HV0 HV1 c0 c1 c2 c3 c4
      go_region_held3 (fun W => W.cell? ⟨w.heap.size, 0, none⟩ = some (.int .i64 p.tx) ∧ W.cell? ⟨w.heap.size, 1, none⟩ = some (.int .i64 p.time) ∧ W.cell? ⟨w.heap.size, 2, none⟩ = some (.int .i64 p.unit) ∧ W.cell? ⟨w.heap.size, 3, none⟩ = some (.int .i64 p.data) ∧ W.cell? ⟨w.heap.size, 4, none⟩ = some (.slice A n c))
        (assumption)
        (first
          | (go_at_call 12; (with_reducible refine (NE.out _ HV2).mono ?_); rintro e w3 ⟨rfl, HV3⟩; have d3 := HV3.out.row.cs)
          | (go_at_call 10; (with_reducible refine (BS.out _ HV3).mono ?_); rintro e w4 ⟨rfl, HV4⟩; have d4 := HV4.out.row.cs))
      obtain ⟨c0, c1, c2, c3, c4⟩ := HV4.out.row.cs
      clear d2 d3 d4
      go_wp2_with (first
        | (go_at_call 16; (with_reducible refine (CK.out _ HV4).mono ?_); rintro e w5 ⟨rfl, HV5⟩; clear c0 c1 c2 c3 c4; obtain ⟨c0, c1, c2, c3, c4⟩ := HV5.out.row.cs)
        | (go_at_call 14; (with_reducible refine (F1.out _ HV5).mono ?_); rintro e w6 ⟨rfl, HV6⟩; clear c0 c1 c2 c3 c4; obtain ⟨c0, c1, c2, c3, c4⟩ := HV6.out.row.cs)
        | (go_at_call 7; (with_reducible refine (LV.out _ HV6).mono ?_); rintro e w12 ⟨rfl, HV12⟩))
      go_ret
      exact ⟨rfl, HV12.out.bel⟩
end Go.Proofs.Ytcmehjjaologpaa
