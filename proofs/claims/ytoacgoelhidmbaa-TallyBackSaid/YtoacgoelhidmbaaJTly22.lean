/-
  Joined: TlyJ, TlyU.
-/
import Derived.Test.YtoacgoelhidmbaaJTly21
import Derived.Test.YtoacgoelhidmbaaJTly17
import Derived.Test.YtoacgoelhidmbaaJTly01
/-
  Layer 21's mathematics: what Join answers, as loops meet it.
-/
namespace Go.Proofs.Ytoacgoelhidmbaa
open Go.RowKit
set_option linter.unusedVariables false
set_option linter.unusedSimpArgs false

abbrev Ent21 := Int × List UInt8 × Int
/-- entries without their block -/
def ov21 (o : List Ent21) : List Ovr21 := o.map fun e => (e.1, e.2.1)
theorem ov21_length (o : List Ent21) : (ov21 o).length = o.length := by simp [ov21]
def zE21 : Ent21 := (0, [], 0)
def zO21 : Ovr21 := (0, [])
theorem ov21_at {o : List Ent21} {k : Nat} : (ov21 o).getD k zO21 = ((o.getD k zE21).1, (o.getD k zE21).2.1) := by
  unfold ov21
  by_cases hk : k < o.length
  · simp [List.getD_eq_getElem?_getD, hk]
  · simp [List.getD_eq_getElem?_getD, hk, zO21, zE21]
instance (b : List (List Int)) (k : Nat) : Decidable (len21 b k) := inferInstanceAs (Decidable (_ ∧ _ ∧ _))
instance (b : List (List Int)) (k j : Nat) : Decidable (two21 b k j) := inferInstanceAs (Decidable (_ ∧ _))
instance (b : List (List Int)) : Decidable (okB21 b) := decidable_of_iff ((∀ k, k < b.length → len21 b k) ∧ ∀ k, k < b.length → ∀ j, j < (b.getD k []).length → two21 b k j) (by
  rw [okB21_iff]
  exact and_congr_right fun _ => ⟨fun h k j hk hj => h k hk j hj, fun h k hk j hj => h k j hk hj⟩)
instance (out : List Int) (o : List Ovr21) : Decidable (full21 out o) := inferInstanceAs (Decidable (∀ k, k < out.length → out.getD k 0 = 3 → ∃ e ∈ o, e.1 = (k : Int)))
/-- what Join answers -/
def joinE21 (b : List (List Int)) (o : List Ovr21) : Int := if okB21 b then (if entE21 b.flatten none o = 0 then (if full21 b.flatten o then 0 else 13) else entE21 b.flatten none o) else 7
def joinL21 (b : List (List Int)) (o : List Ovr21) : List Int := if joinE21 b o = 0 then fill21 b.flatten o else []
theorem joinE21_zero {b : List (List Int)} {o : List Ovr21} : joinE21 b o = 0 ↔ okB21 b ∧ entE21 b.flatten none o = 0 ∧ full21 b.flatten o := by
  unfold joinE21
  by_cases h1 : okB21 b
  · rw [if_pos h1]
    by_cases h2 : entE21 b.flatten none o = 0
    · rw [if_pos h2]
      by_cases h3 : full21 b.flatten o
      · rw [if_pos h3]; exact ⟨fun _ => ⟨h1, h2, h3⟩, fun _ => rfl⟩
      · rw [if_neg h3]; exact ⟨fun h => (by cases h), fun h => absurd h.2.2 h3⟩
    · rw [if_neg h2]; exact ⟨fun h => absurd h h2, fun h => absurd h.2.1 h2⟩
  · rw [if_neg h1]; exact ⟨fun h => (by cases h), fun h => absurd h.1 h1⟩

/-! ### the entries, one by one -/
def entAt21 (out : List Int) (p : Option Int) (o : List Ovr21) (k : Nat) : Int :=
  if (o.getD k zO21).1 < 0 ∨ (∃ y, (if k = 0 then p else some (o.getD (k - 1) zO21).1) = some y ∧ (o.getD k zO21).1 ≤ y) then 8 else if (out.length : Int) ≤ (o.getD k zO21).1 ∨ out.getD (o.getD k zO21).1.toNat 0 ≠ 3 then 13 else rdE (o.getD k zO21).2 countS
theorem entAt21_zero (out : List Int) (p : Option Int) (e : Ovr21) (r : List Ovr21) : entAt21 out p (e :: r) 0 = if e.1 < 0 ∨ (∃ y, p = some y ∧ e.1 ≤ y) then 8 else if (out.length : Int) ≤ e.1 ∨ out.getD e.1.toNat 0 ≠ 3 then 13 else rdE e.2 countS := by simp [entAt21]
theorem entAt21_succ (out : List Int) (p : Option Int) (e : Ovr21) (r : List Ovr21) (k : Nat) : entAt21 out p (e :: r) (k + 1) = entAt21 out (some e.1) r k := by
  unfold entAt21
  cases k with
  | zero => simp
  | succ k => simp
theorem entE21_bad {out : List Int} : ∀ {p : Option Int} {o : List Ovr21} {k : Nat}, k < o.length → (∀ j, j < k → entAt21 out p o j = 0) → entAt21 out p o k ≠ 0 → entE21 out p o = entAt21 out p o k
  | _, [], _, h, _, _ => by simp at h
  | p, e :: r, 0, _, _, hb => by
    rw [entAt21_zero] at hb ⊢
    rw [entE21]
    by_cases h1 : e.1 < 0 ∨ (∃ y, p = some y ∧ e.1 ≤ y)
    · rw [if_pos h1, if_pos h1]
    · rw [if_neg h1] at hb ⊢
      rw [if_neg h1]
      by_cases h2 : (out.length : Int) ≤ e.1 ∨ out.getD e.1.toNat 0 ≠ 3
      · rw [if_pos h2, if_pos h2]
      · rw [if_neg h2] at hb ⊢
        rw [if_neg h2, if_pos hb]
  | p, e :: r, k + 1, h, hg, hb => by
    have h0 := hg 0 (by omega)
    rw [entAt21_zero] at h0
    rw [entAt21_succ] at hb ⊢
    rw [entE21]
    split at h0
    · cases h0
    · rename_i h1
      split at h0
      · cases h0
      · rename_i h2
        rw [if_neg h1, if_neg h2, if_neg (by simp [h0])]
        exact entE21_bad (by simpa using h) (fun j hj => by rw [← entAt21_succ]; exact hg (j + 1) (by omega)) hb
theorem entE21_ok {out : List Int} : ∀ {p : Option Int} {o : List Ovr21}, (∀ j, j < o.length → entAt21 out p o j = 0) → entE21 out p o = 0
  | _, [], _ => rfl
  | p, e :: r, hg => by
    have h0 := hg 0 (by simp)
    rw [entAt21_zero] at h0
    rw [entE21]
    split at h0
    · cases h0
    · rename_i h1
      split at h0
      · cases h0
      · rename_i h2
        rw [if_neg h1, if_neg h2, if_neg (by simp [h0])]
        exact entE21_ok fun j hj => by rw [← entAt21_succ]; exact hg (j + 1) (by simpa using hj)
/-- entry k by its numbers -/
theorem entAt21_low {out : List Int} {o : List Ovr21} {k : Nat} (h : (o.getD k zO21).1 < 0) : entAt21 out none o k = 8 := if_pos (.inl h)
theorem entAt21_back {out : List Int} {o : List Ovr21} {k : Nat} (hk : 0 < k) (h : (o.getD k zO21).1 ≤ (o.getD (k - 1) zO21).1) : entAt21 out none o k = 8 := if_pos (.inr ⟨_, if_neg (by omega), h⟩)
theorem entAt21_rest {out : List Int} {o : List Ovr21} {k : Nat} (h0 : ¬ (o.getD k zO21).1 < 0) (h : 0 < k → ¬ (o.getD k zO21).1 ≤ (o.getD (k - 1) zO21).1) : entAt21 out none o k = if (out.length : Int) ≤ (o.getD k zO21).1 ∨ out.getD (o.getD k zO21).1.toNat 0 ≠ 3 then 13 else rdE (o.getD k zO21).2 countS := by
  unfold entAt21
  rw [if_neg]
  rintro (h1 | ⟨y, e, h1⟩)
  · exact h0 h1
  · by_cases hk : k = 0
    · rw [if_pos hk] at e; cases e
    · rw [if_neg hk] at e
      injection e with e
      subst e
      exact h (by omega) h1

/-! ### threes filled in -/
theorem rdV21 {s : List UInt8} (h : rdE s countS = 0) : rdV s countS 0 = cV21 s := if_pos h
theorem find21_at {o : List Ent21} {key : Int} {i : Nat} (hi : i < o.length) (hk : (o.getD i (0, [], 0)).1 = key) (hb : ∀ k, k < i → (o.getD k (0, [], 0)).1 ≠ key) : find21 (ov21 o) key = some ((o.getD i (0, [], 0)).1, (o.getD i (0, [], 0)).2.1) := by
  unfold find21
  rw [List.find?_eq_some_iff_getElem]
  refine ⟨by simpa using hk, i, by rw [ov21_length]; exact hi, ?_, fun j hj => ?_⟩
  · have := ov21_at (o := o) (k := i)
    rw [List.getD_eq_getElem?_getD, List.getElem?_eq_getElem (by rw [ov21_length]; exact hi)] at this
    exact this
  · have := ov21_at (o := o) (k := j)
    rw [List.getD_eq_getElem?_getD, List.getElem?_eq_getElem (by rw [ov21_length]; omega)] at this
    have h2 : (ov21 o)[j]'(by rw [ov21_length]; omega) = ((o.getD j zE21).1, (o.getD j zE21).2.1) := this
    rw [h2]
    have := hb j hj
    simpa [zE21] using this
/-- what find answers says whether a three is full, and with what -/
theorem full21_no {out : List Int} {o : List Ent21} {k : Nat} (hk : k < out.length) (h3 : out.getD k 0 = 3) (hn : ∀ j, j < o.length → (o.getD j (0, [], 0)).1 ≠ (k : Int)) : ¬ full21 out (ov21 o) := fun h => by
  obtain ⟨e, he, hek⟩ := h k hk h3
  obtain ⟨x, hx, rfl⟩ := List.mem_map.1 he
  obtain ⟨j, hj, rfl⟩ := List.getElem_of_mem hx
  exact hn j hj (by rw [getD21 hj]; exact hek)
/-- the first k filled -/
def mix21 (out : List Int) (o : List Ovr21) (k : Nat) : List Int := (fill21 out o).take k ++ out.drop k
theorem mix21_length {out : List Int} {o : List Ovr21} {k : Nat} (h : k ≤ out.length) : (mix21 out o k).length = out.length := by
  unfold mix21
  rw [List.length_append, List.length_take, List.length_drop, fill21_length]
  omega
theorem mix21_zero (out : List Int) (o : List Ovr21) : mix21 out o 0 = out := by simp [mix21]
theorem mix21_all (out : List Int) (o : List Ovr21) : mix21 out o out.length = fill21 out o := by
  unfold mix21
  rw [List.drop_length, List.append_nil, List.take_of_length_le (by rw [fill21_length]; exact Nat.le_refl _)]
theorem mix21_at {out : List Int} {o : List Ovr21} {k : Nat} (h : k < out.length) : (mix21 out o k)[k]? = some (out.getD k 0) := by
  unfold mix21
  rw [List.getElem?_append_right (by rw [List.length_take, fill21_length]; omega), List.length_take, fill21_length, Nat.min_eq_left (by omega), Nat.sub_self, List.getElem?_drop, Nat.add_zero, List.getElem?_eq_getElem h, getD21 h]
theorem mix21_set {out : List Int} {o : List Ovr21} {k : Nat} (h : k < out.length) : (mix21 out o k).set k ((fill21 out o).getD k 0) = mix21 out o (k + 1) := by
  unfold mix21
  have hf : k < (fill21 out o).length := by rw [fill21_length]; exact h
  rw [List.set_append_right _ _ (by rw [List.length_take]; omega), List.length_take, Nat.min_eq_left (by omega), Nat.sub_self, List.drop_eq_getElem_cons h, List.set_cons_zero, List.take_succ_eq_append_getElem hf, getD21 hf, List.append_assoc]
  rfl
theorem mix21_same {out : List Int} {o : List Ovr21} {k : Nat} (h : k < out.length) (h3 : out.getD k 0 ≠ 3) : mix21 out o (k + 1) = mix21 out o k := by
  rw [← mix21_set h, fill21_at h, if_neg h3]
  apply List.ext_getElem?
  intro j
  by_cases hj : j = k
  · subst hj
    rw [List.getElem?_set_self (by rw [mix21_length (by omega)]; exact h), mix21_at h]
  · rw [List.getElem?_set_ne (by omega)]
theorem mix21_three {out : List Int} {o : List Ent21} {k i : Nat} (h : k < out.length) (h3 : out.getD k 0 = 3) (hi : i < o.length) (hk : (o.getD i (0, [], 0)).1 = (k : Int)) (hb : ∀ j, j < i → (o.getD j (0, [], 0)).1 ≠ (k : Int)) (hr : rdE (o.getD i (0, [], 0)).2.1 countS = 0) :
    (mix21 out (ov21 o) k).set k (rdV (o.getD i (0, [], 0)).2.1 countS 0) = mix21 out (ov21 o) (k + 1) := by
  rw [← mix21_set h, fill21_at h, if_pos h3, find21_at hi hk hb, rdV21 hr]
theorem i64s_set21 (l : List Int) (k : Nat) (z : Int) : (i64s l).set k (.int .i64 z) = i64s (l.set k z) := by simp [i64s, List.map_set]
theorem i64s_at21 {l : List Int} {k : Nat} {z : Int} (h : l[k]? = some z) : (i64s l)[k]? = some (.int .i64 z) := by simp [i64s, h]
theorem flat21_take {b : List (List Int)} {k : Nat} (h : k < b.length) : (b.take (k + 1)).flatten = (b.take k).flatten ++ b.getD k [] := by
  rw [List.take_succ_eq_append_getElem h, getD21 h, List.flatten_append]
  simp
end Go.Proofs.Ytoacgoelhidmbaa

/-
  Layer 21's mathematics: Join as the program has it: entries in a map, the last of each key; what the threes leave there; the entries checked afterwards.
-/
namespace Go.Proofs.Ytoacgoelhidmbaa
open Go.RowKit
set_option linter.unusedVariables false
set_option linter.unusedSimpArgs false

/-- the last entry of a key -/
def last21 (o : List Ent21) (k : Int) : Option Ent21 := o.foldl (fun f e => if k = e.1 then some e else f) none
def entV21 (x : Ent21) : Value := .agg #[.int .i64 x.1, .string ⟨x.2.1.toArray⟩, .int .i64 x.2.2]
theorem last21_snoc (o : List Ent21) (e : Ent21) (k : Int) : last21 (o ++ [e]) k = if k = e.1 then some e else last21 o k := by
  unfold last21
  rw [List.foldl_append]
  rfl
theorem last21_take {o : List Ent21} {i : Nat} (h : i < o.length) (k : Int) : last21 (o.take (i + 1)) k = if k = (o.getD i zE21).1 then some (o.getD i zE21) else last21 (o.take i) k := by
  rw [List.take_succ_eq_append_getElem h, last21_snoc, getD21 h]
theorem last21_mem : ∀ {o : List Ent21} {k : Int} {e : Ent21}, last21 o k = some e → e ∈ o ∧ e.1 = k := fun {o} => by
  induction h : o.length generalizing o with
  | zero => rw [List.eq_nil_of_length_eq_zero h]; intro k e he; cases he
  | succ n ih =>
    obtain ⟨r, x, rfl⟩ : ∃ r x, o = r ++ [x] := ⟨o.dropLast, o.getLast (by intro e; rw [e] at h; simp at h), (List.dropLast_concat_getLast _).symm⟩
    intro k e he
    rw [last21_snoc] at he
    by_cases hk : k = x.1
    · rw [if_pos hk] at he
      injection he with he
      subst he
      exact ⟨by simp, hk.symm⟩
    · rw [if_neg hk] at he
      have := ih (o := r) (by simpa using h) he
      exact ⟨List.mem_append_left _ this.1, this.2⟩
theorem last21_some : ∀ {o : List Ent21} {k : Int}, (∃ e ∈ o, e.1 = k) → (last21 o k).isSome = true := fun {o} => by
  induction h : o.length generalizing o with
  | zero => rw [List.eq_nil_of_length_eq_zero h]; rintro k ⟨e, he, _⟩; cases he
  | succ n ih =>
    obtain ⟨r, x, rfl⟩ : ∃ r x, o = r ++ [x] := ⟨o.dropLast, o.getLast (by intro e; rw [e] at h; simp at h), (List.dropLast_concat_getLast _).symm⟩
    rintro k ⟨e, he, hk⟩
    rw [last21_snoc]
    by_cases hx : k = x.1
    · rw [if_pos hx]; rfl
    · rw [if_neg hx]
      refine ih (o := r) (by simpa using h) ⟨e, ?_, hk⟩
      rcases List.mem_append.1 he with he | he
      · exact he
      · rw [List.mem_singleton] at he; subst he; exact absurd hk.symm hx

/-- what is left once the first k counts have taken theirs -/
def left21 (out : List Int) (o : List Ent21) (k : Nat) (j : Int) : Option Ent21 := if 0 ≤ j ∧ j < (k : Int) ∧ out.getD j.toNat 0 = 3 then none else last21 o j
theorem left21_zero (out : List Int) (o : List Ent21) (j : Int) : left21 out o 0 j = last21 o j := if_neg (by omega)
theorem left21_self (out : List Int) (o : List Ent21) (k : Nat) : left21 out o k (k : Int) = last21 o (k : Int) := if_neg (by omega)
theorem left21_three {out : List Int} {o : List Ent21} {k : Nat} (h3 : out.getD k 0 = 3) (j : Int) : left21 out o (k + 1) j = if j = (k : Int) then none else left21 out o k j := by
  unfold left21
  by_cases hj : j = (k : Int)
  · subst hj
    rw [if_pos rfl, if_pos ⟨by omega, by omega, by simpa using h3⟩]
  · rw [if_neg hj]
    by_cases hc : 0 ≤ j ∧ j < (k : Int) ∧ out.getD j.toNat 0 = 3
    · rw [if_pos hc, if_pos ⟨hc.1, by omega, hc.2.2⟩]
    · rw [if_neg hc, if_neg (fun h => hc ⟨h.1, by omega, h.2.2⟩)]
theorem left21_other {out : List Int} {o : List Ent21} {k : Nat} (h3 : out.getD k 0 ≠ 3) : left21 out o (k + 1) = left21 out o k := by
  funext j
  unfold left21
  by_cases hj : j = (k : Int)
  · subst hj
    rw [if_neg (fun h => h3 (by simpa using h.2.2)), if_neg (fun h => h3 (by simpa using h.2.2))]
  · by_cases hc : 0 ≤ j ∧ j < (k : Int) ∧ out.getD j.toNat 0 = 3
    · rw [if_pos hc, if_pos ⟨hc.1, by omega, hc.2.2⟩]
    · rw [if_neg hc, if_neg (fun h => hc ⟨h.1, by omega, h.2.2⟩)]

/-- the counts once all threes have been replaced -/
def fillU21 (out : List Int) (o : List Ent21) : List Int := (List.range out.length).map fun (k : Nat) => if out.getD k 0 = 3 then rdV ((last21 o (k : Int)).getD zE21).2.1 countS 0 else out.getD k 0
theorem fillU21_length (out : List Int) (o : List Ent21) : (fillU21 out o).length = out.length := by simp [fillU21]
theorem fillU21_at {out : List Int} {o : List Ent21} {k : Nat} (h : k < out.length) : (fillU21 out o).getD k 0 = if out.getD k 0 = 3 then rdV ((last21 o (k : Int)).getD zE21).2.1 countS 0 else out.getD k 0 := by
  unfold fillU21
  rw [List.getD_eq_getElem?_getD, List.getElem?_map, List.getElem?_range h]
  rfl
/-- the first k replaced -/
def mixU21 (out : List Int) (o : List Ent21) (k : Nat) : List Int := (fillU21 out o).take k ++ out.drop k
theorem mixU21_length {out : List Int} {o : List Ent21} {k : Nat} (h : k ≤ out.length) : (mixU21 out o k).length = out.length := by
  unfold mixU21
  rw [List.length_append, List.length_take, List.length_drop, fillU21_length]
  omega
theorem mixU21_zero (out : List Int) (o : List Ent21) : mixU21 out o 0 = out := by simp [mixU21]
theorem mixU21_all (out : List Int) (o : List Ent21) : mixU21 out o out.length = fillU21 out o := by
  unfold mixU21
  rw [List.drop_length, List.append_nil, List.take_of_length_le (by rw [fillU21_length]; exact Nat.le_refl _)]
theorem mixU21_at {out : List Int} {o : List Ent21} {k : Nat} (h : k < out.length) : (mixU21 out o k)[k]? = some (out.getD k 0) := by
  unfold mixU21
  rw [List.getElem?_append_right (by rw [List.length_take, fillU21_length]; omega), List.length_take, fillU21_length, Nat.min_eq_left (by omega), Nat.sub_self, List.getElem?_drop, Nat.add_zero, List.getElem?_eq_getElem h, getD21 h]
theorem mixU21_set {out : List Int} {o : List Ent21} {k : Nat} (h : k < out.length) : (mixU21 out o k).set k ((fillU21 out o).getD k 0) = mixU21 out o (k + 1) := by
  unfold mixU21
  have hf : k < (fillU21 out o).length := by rw [fillU21_length]; exact h
  rw [List.set_append_right _ _ (by rw [List.length_take]; omega), List.length_take, Nat.min_eq_left (by omega), Nat.sub_self, List.drop_eq_getElem_cons h, List.set_cons_zero, List.take_succ_eq_append_getElem hf, getD21 hf, List.append_assoc]
  rfl
theorem mixU21_three {out : List Int} {o : List Ent21} {k : Nat} (h : k < out.length) (h3 : out.getD k 0 = 3) : (mixU21 out o k).set k (rdV ((last21 o (k : Int)).getD zE21).2.1 countS 0) = mixU21 out o (k + 1) := by
  rw [← mixU21_set h, fillU21_at h, if_pos h3]
theorem mixU21_other {out : List Int} {o : List Ent21} {k : Nat} (h : k < out.length) (h3 : out.getD k 0 ≠ 3) : mixU21 out o (k + 1) = mixU21 out o k := by
  rw [← mixU21_set h, fillU21_at h, if_neg h3]
  apply List.ext_getElem?
  intro j
  by_cases hj : j = k
  · subst hj
    rw [List.getElem?_set_self (by rw [mixU21_length (by omega)]; exact h), mixU21_at h]
  · rw [List.getElem?_set_ne (by omega)]

/-- has each of the first k threes an entry -/
def cmp21 (out : List Int) (o : List Ent21) (k : Nat) : Bool := decide (∀ j, j < k → out.getD j 0 = 3 → (last21 o (j : Int)).isSome = true)
theorem cmp21_zero (out : List Int) (o : List Ent21) : cmp21 out o 0 = true := decide_eq_true fun j hj => absurd hj (Nat.not_lt_zero _)
theorem cmp21_three {out : List Int} {o : List Ent21} {k : Nat} (h3 : out.getD k 0 = 3) : cmp21 out o (k + 1) = (cmp21 out o k && (last21 o (k : Int)).isSome) := by
  rw [Bool.eq_iff_iff, Bool.and_eq_true]
  unfold cmp21
  rw [decide_eq_true_iff, decide_eq_true_iff]
  constructor
  · intro h; exact ⟨fun j hj => h j (by omega), h k (by omega) h3⟩
  · rintro ⟨h1, h2⟩ j hj hj3
    by_cases e : j = k
    · subst e; exact h2
    · exact h1 j (by omega) hj3
theorem cmp21_other {out : List Int} {o : List Ent21} {k : Nat} (h3 : out.getD k 0 ≠ 3) : cmp21 out o (k + 1) = cmp21 out o k := by
  rw [Bool.eq_iff_iff]
  unfold cmp21
  rw [decide_eq_true_iff, decide_eq_true_iff]
  constructor
  · intro h j hj; exact h j (by omega)
  · intro h j hj hj3
    by_cases e : j = k
    · subst e; exact absurd hj3 h3
    · exact h j (by omega) hj3
theorem cmp21_full {out : List Int} {o : List Ent21} : cmp21 out o out.length = true ↔ full21 out (ov21 o) := by
  unfold cmp21
  rw [decide_eq_true_iff]
  constructor
  · intro h k hk h3
    obtain ⟨e, he⟩ := Option.isSome_iff_exists.1 (h k hk h3)
    obtain ⟨h1, h2⟩ := last21_mem he
    exact ⟨(e.1, e.2.1), List.mem_map.2 ⟨e, h1, rfl⟩, h2⟩
  · intro h k hk h3
    obtain ⟨x, hx, hk2⟩ := h k hk h3
    obtain ⟨e, he, rfl⟩ := List.mem_map.1 hx
    exact last21_some ⟨e, he, hk2⟩

/-- the first thing wrong with entries behind key p, where G is left -/
def chkE21 (G : Int → Option Ent21) : Int → List Ent21 → Int
  | _, [] => 0
  | p, e :: r => if e.1 ≤ p then 8 else if (G e.1).isSome = true then 13 else if rdE e.2.1 countS ≠ 0 then rdE e.2.1 countS else chkE21 G e.1 r
theorem chkE21_end (G : Int → Option Ent21) {p : Int} {o : List Ent21} {k : Nat} (h : o.length ≤ k) : chkE21 G p (o.drop k) = 0 := by rw [List.drop_of_length_le h]; rfl
theorem chkE21_at (G : Int → Option Ent21) {p : Int} {o : List Ent21} {k : Nat} (h : k < o.length) : chkE21 G p (o.drop k) = if (o.getD k zE21).1 ≤ p then 8 else if (G (o.getD k zE21).1).isSome = true then 13 else if rdE (o.getD k zE21).2.1 countS ≠ 0 then rdE (o.getD k zE21).2.1 countS else chkE21 G (o.getD k zE21).1 (o.drop (k + 1)) := by
  rw [List.drop_eq_getElem_cons h, getD21 h]
  rfl
theorem chkE21_ent {out : List Int} {o : List Ent21} : ∀ {r : List Ent21} {p : Option Int}, (∀ e ∈ r, e ∈ o) → (∀ y, p = some y → 0 ≤ y) → chkE21 (left21 out o out.length) (p.getD (-1)) r = entE21 out p (ov21 r)
  | [], _, _, _ => rfl
  | e :: r, p, hr, hp => by
    have he := hr e (List.mem_cons_self ..)
    have hl := last21_some (o := o) ⟨e, he, rfl⟩
    rw [chkE21, ov21, List.map_cons, entE21]
    have c1 : e.1 ≤ p.getD (-1) ↔ (e.1 < 0 ∨ ∃ y, p = some y ∧ e.1 ≤ y) := by
      cases p with
      | none =>
        simp only [Option.getD_none]
        constructor
        · intro h; exact .inl (by omega)
        · rintro (h | ⟨y, e, _⟩)
          · omega
          · cases e
      | some y =>
        have hy := hp y rfl
        simp only [Option.getD_some]
        constructor
        · intro h; exact .inr ⟨y, rfl, h⟩
        · rintro (h | ⟨z, e, h⟩)
          · omega
          · injection e with e; omega
    by_cases h1 : e.1 ≤ p.getD (-1)
    · rw [if_pos h1, if_pos (c1.1 h1)]
    · have hn1 : ¬ (e.1 < 0 ∨ ∃ y, p = some y ∧ e.1 ≤ y) := fun h => h1 (c1.2 h)
      rw [if_neg h1, if_neg hn1]
      have h0 : 0 ≤ e.1 := by
        by_cases h : 0 ≤ e.1
        · exact h
        · exact absurd (.inl (by omega)) hn1
      have c2 : (left21 out o out.length e.1).isSome = true ↔ ((out.length : Int) ≤ e.1 ∨ out.getD e.1.toNat 0 ≠ 3) := by
        unfold left21
        by_cases hc : 0 ≤ e.1 ∧ e.1 < (out.length : Int) ∧ out.getD e.1.toNat 0 = 3
        · rw [if_pos hc]
          constructor
          · intro h; cases h
          · rintro (h | h)
            · omega
            · exact absurd hc.2.2 h
        · rw [if_neg hc]
          refine ⟨fun _ => ?_, fun _ => hl⟩
          by_cases h : out.getD e.1.toNat 0 = 3
          · exact .inl (by
              by_cases h2 : e.1 < (out.length : Int)
              · exact absurd ⟨h0, h2, h⟩ hc
              · omega)
          · exact .inr h
      by_cases h2 : (left21 out o out.length e.1).isSome = true
      · rw [if_pos h2, if_pos (c2.1 h2)]
      · rw [if_neg h2, if_neg (fun h => h2 (c2.2 h))]
        by_cases h3 : rdE e.2.1 countS ≠ 0
        · rw [if_pos h3, if_pos h3]
        · rw [if_neg h3, if_neg h3]
          have ih := chkE21_ent (out := out) (o := o) (r := r) (p := some e.1) (fun x hx => hr x (List.mem_cons_of_mem _ hx)) (fun y hy => by injection hy with hy; omega)
          exact ih

/-- where nothing is wrong the last entry is the first -/
theorem fillU21_fill {out : List Int} {o : List Ent21} (he : entE21 out none (ov21 o) = 0) (hf : full21 out (ov21 o)) : fillU21 out o = fill21 out (ov21 o) := by
  obtain ⟨e1, e2, _⟩ := entE21_zero.1 he
  apply List.ext_getElem
  · rw [fillU21_length, fill21_length]
  · intro k h1 h2
    have hk : k < out.length := by rw [fillU21_length] at h1; exact h1
    have a1 := fillU21_at (o := o) hk
    have a2 := fill21_at (o := ov21 o) hk
    rw [getD21 h1] at a1
    rw [getD21 h2] at a2
    rw [a1, a2]
    by_cases h3 : out.getD k 0 = 3
    · rw [if_pos h3, if_pos h3]
      obtain ⟨e, hl⟩ := Option.isSome_iff_exists.1 (last21_some (o := o) (k := (k : Int)) (by
        obtain ⟨x, hx, hk2⟩ := hf k hk h3
        obtain ⟨e, he, rfl⟩ := List.mem_map.1 hx
        exact ⟨e, he, hk2⟩))
      obtain ⟨hm, hk3⟩ := last21_mem hl
      have hmo : ((e.1, e.2.1) : Ovr21) ∈ ov21 o := List.mem_map.2 ⟨e, hm, rfl⟩
      have hy := find21_yes e2 hmo
      rw [hl]
      rw [show find21 (ov21 o) (k : Int) = some (e.1, e.2.1) from by rw [← hk3]; exact hy]
      exact rdV21 (e1 _ hmo).2.2.2
    · rw [if_neg h3, if_neg h3]

/-! ### the map's values -/
def entF21 (G : Int → Option Ent21) (j : Int) : Option Value := (G j).map entV21
theorem entF21_get (G : Int → Option Ent21) (j : Int) : (entF21 G j).getD (entV21 zE21) = entV21 ((G j).getD zE21) := by
  unfold entF21
  cases G j <;> rfl
theorem entF21_some (G : Int → Option Ent21) (j : Int) : (entF21 G j).isSome = (G j).isSome := by
  unfold entF21
  cases G j <;> rfl
end Go.Proofs.Ytoacgoelhidmbaa
