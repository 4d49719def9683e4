/-
  The walk of CodeJoins.
-/
import Derived.Test.YtbflfnaiihbjoaaLawB
import Derived.Test.YtbflfnaiihbjoaaLawC
namespace Go.Proofs.Ytbflfnaiihbjoaa
open Go.RowKit
set_option linter.unusedVariables false
set_option linter.unusedSimpArgs false

theorem encs_append (a b : List (Int × Int)) : encs (a ++ b) = encs a ++ encs b := by simp [encs]
theorem flds_append (a b : List (Int × Int)) : flds (a ++ b) = flds a ++ flds b := by simp [flds]

theorem get_enc {pre rest : List UInt8} {wd x : Int} (hw : isW wd = true) (hf : fitsB x wd = true) (hx : x ≤ 9223372036854775807) :
    getE (pre ++ (encN wd.toNat x.toNat ++ rest)) pre.length wd = 0 ∧ getN (pre ++ (encN wd.toNat x.toNat ++ rest)) pre.length wd = x := by
  have hx0 := fits_bounds hf
  have hb : 1 ≤ wd := by rcases isW_cases hw with h | h | h | h <;> omega
  have hr : roomE (pre ++ (encN wd.toNat x.toNat ++ rest)).length pre.length wd = 0 := by
    simp only [roomE, hw, List.length_append, encN_length]
    simp
    omega
  have hp : part (pre ++ (encN wd.toNat x.toNat ++ rest)) pre.length wd = encN wd.toNat x.toNat := by
    simp only [part, Int.toNat_natCast]
    rw [List.drop_left, List.take_append_of_le_length (by rw [encN_length]; omega), List.take_of_length_le (by rw [encN_length]; omega)]
  have hv : leN (part (pre ++ (encN wd.toNat x.toNat ++ rest)) pre.length wd) = x.toNat := by rw [hp, leN_encN _ _ (fits_lt hw hf hx)]
  have e0 : getE (pre ++ (encN wd.toNat x.toNat ++ rest)) pre.length wd = 0 := by
    simp only [getE, hr, hv]
    simp
    omega
  exact ⟨e0, by simp only [getN, e0, hv]; simp; omega⟩

theorem unp_pack (a : List (Int × Int)) (pre rest : List UInt8) (h : packE a = 0) (hb : ∀ p ∈ a, i64b p.1 ∧ i64b p.2) :
    unpE (pre ++ (encs a ++ rest)) pre.length (a.map (·.1)) = 0 ∧ unpL (pre ++ (encs a ++ rest)) pre.length (a.map (·.1)) = a.map (·.2) := by
  induction a generalizing pre with
  | nil => exact ⟨rfl, rfl⟩
  | cons p r ih =>
    simp only [packE] at h
    split at h
    · simp at h
    · rename_i hw
      have hw' : isW p.1 = true := by simpa using hw
      split at h
      · simp at h
      · rename_i hf
        have hf' : fitsB p.2 p.1 = true := by simpa using hf
        have hb1 : 1 ≤ p.1 := by rcases isW_cases hw' with h | h | h | h <;> omega
        have e : encs (p :: r) ++ rest = encN p.1.toNat p.2.toNat ++ (encs r ++ rest) := by simp [encs]
        obtain ⟨g1, g2⟩ := get_enc (pre := pre) (rest := encs r ++ rest) hw' hf' (hb p (by simp)).2.2
        have hih := ih (pre ++ encN p.1.toNat p.2.toNat) h (fun q hq => hb q (by simp [hq]))
        have el : (((pre ++ encN p.1.toNat p.2.toNat).length : Nat) : Int) = pre.length + p.1 := by
          rw [List.length_append, encN_length]; omega
        rw [el, List.append_assoc] at hih
        simp only [List.map_cons, unpE, unpL, e, g1, g2, if_true]
        exact ⟨hih.1, by rw [hih.2]⟩

theorem unp_pack0 (a : List (Int × Int)) (rest : List UInt8) (h : packE a = 0) (hb : ∀ p ∈ a, i64b p.1 ∧ i64b p.2) :
    unpE (encs a ++ rest) 0 (a.map (·.1)) = 0 ∧ unpN (encs a ++ rest) (a.map (·.1)) = a.map (·.2) := by
  have := unp_pack a [] rest h hb
  simp only [List.nil_append, List.length_nil] at this
  change unpE (encs a ++ rest) 0 (a.map (·.1)) = 0 ∧ unpL (encs a ++ rest) 0 (a.map (·.1)) = a.map (·.2) at this
  exact ⟨this.1, by unfold unpN; rw [if_pos this.1]; exact this.2⟩

theorem info_i64s : (Try.prog.info? 3).map (fun i => (i.zero, i.size, i.bytes)) = some (some (.int .i64 0), 1, 8) := by kernel_rfl

set_option maxHeartbeats 400000 in
theorem joins_bad (A : Option Addr) (n c : Nat) (l : List (Int × Int)) (A1 : Option Addr) (n1 c1 : Nat) (l1 : List (Int × Int)) (A2 : Option Addr) (n2 c2 : Nat) (m : List UInt8) (w : World)
    (h : Flds w A n c l) (h1 : Flds w A1 n1 c1 l1) (h2 : Bytes8 w A2 n2 c2 m) (hn : n + n1 ≤ 500) (hn2 : n2 ≤ 1000) (hbad : packE l ≠ 0 ∨ packE l1 ≠ 0) :
    Calls Try.prog 6 #[.slice A n c, .slice A1 n1 c1, .slice A2 n2 c2] w fun e w' => e = .returned (.bool true) ∧ Below w.heap.size w w' := by
  have P1 := Lib.hid (fun (W : World) (hb : Below w.heap.size w W) => Pack_any A n c l W (h.below hb) (by omega))
  have P2 := Lib.hid (fun (W : World) (hb : Below w.heap.size w W) => Pack_any A1 n1 c1 l1 W (h1.below hb) (by omega))
  have hz : packE (l ++ l1) ≠ 0 := by
    rw [packE_append]
    by_cases h0 : packE l = 0
    · rw [if_pos h0]; rcases hbad with h | h
      · exact absurd h0 h
      · exact h
    · rw [if_neg h0]; exact h0
  have PZ : Hid (∀ (W : World) (v : Value) (base : Nat), W.ownsRow base 39 2 v (0 + n + n1) ([] ++ flds l ++ flds l1) → Calls Try.prog 14 #[v] W fun e w' => ∃ A' c', e = .returned (.tuple #[.slice A' 0 c', .int .i64 (packE (l ++ l1))]) ∧ Below W.heap.size W w') := fun W v base ho => by
    rw [List.nil_append, ← flds_append] at ho
    obtain ⟨A', c', rfl, hF⟩ := Flds.of_own ho (fun p hp => by rcases List.mem_append.1 hp with hp | hp; exact h.bds p hp; exact h1.bds p hp)
    refine (Pack_any A' (0 + n + n1) c' (l ++ l1) W hF (by omega)).mono ?_
    rintro e w' ⟨A2, m2, c2, he, hB, hb⟩
    have hm : m2 = 0 := by have := hB.len; simp [packB, hz] at this; exact this.symm
    subst hm
    exact ⟨A2, c2, he, hb⟩
  have hzb : (packE (l ++ l1) != 0) = true := by rw [bne_iff_ne]; exact hz
  have hF := Lib.hid h
  have hF1 := Lib.hid h1
  have e1 : Hid ((packE l != 0) = true ∨ (packE l != 0) = false ∧ (packE l1 != 0) = true) := by
    by_cases h0 : packE l = 0
    · right
      rcases hbad with h | h
      · exact absurd h0 h
      · exact ⟨by simp [h0], by rw [bne_iff_ne]; exact h⟩
    · left; rw [bne_iff_ne]; exact h0
  generalize packE (l ++ l1) = ez at *
  generalize packE l = ea at *
  generalize packE l1 = eb at *
  clear h h1 h2 hbad hz
  rcases e1.out with e2 | ⟨e2, e3⟩
  all_goals clear e1
  all_goals
    go_enter Try.func6, Try.ntmps6
    go_wp2_with fail
    refine (P1.out _ (Below.refl _ _)).mono ?_
    rintro e w1 ⟨A3, m3, c3, rfl, hB3, hb3⟩
    go_wp2_with fail
    refine (P2.out _ hb3).mono ?_
    rintro e w2 ⟨A4, m4, c4, rfl, hB4, hb4⟩
    have hw2 := hb3.trans (hb4.mono hb3.size)
    go_wp2_with (first
      | (at_builtin; refine wpList_append_rowS _ rfl (.tmp 41) (.tmp 42) _ rfl w2.heap.size 39 2 _ 16 Try.underlying37 info_field rfl (by omega) _ 0 [] rfl (own_emptyS w2 _ _) (by simp) _ (flds l) n c rfl (by rw [flds_length, hF.out.len]) (hF.out.row.below (hw2.alloc hw2.size _)) (flds_one _) (by omega) (by omega) ?_; intro v5 w5 ho5 hs5 hb5; have hw5 := (hw2.alloc hw2.size (.cells #[] 39)).trans (hb5.mono hw2.size))
      | (at_builtin; go_must (refine wpList_append_rowS _ rfl (.tmp 43) (.tmp 44) _ rfl w2.heap.size 39 2 _ 16 Try.underlying37 info_field rfl (by omega) v5 _ _ rfl ho5 hs5 _ (flds l1) n1 c1 rfl (by rw [flds_length, hF1.out.len]) (hF1.out.row.below hw5) (flds_one _) (by omega) (by omega) ?_); intro v6 w6 ho6 hs6 hb6; have hw6 := hw5.trans (hb6.mono hw2.size)))
    refine (PZ.out _ _ _ ho6.out).mono ?_
    rintro e w7 ⟨A7, c7, rfl, hb7⟩
    have hw7 := hw6.trans (hb7.mono hw6.size)
    go_wp2_with (go_at_call 7; refine (lives_any _).mono ?_; rintro e w8 ⟨rfl, hb8⟩)
    go_ret
    exact ⟨rfl, hw7.trans (hb8.mono hw7.size)⟩

end Go.Proofs.Ytbflfnaiihbjoaa
