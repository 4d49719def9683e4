/-
  Layer 8's reference: in, text.
-/
import Derived.Test.YtolapeocdaknjaaValL
import Derived.Test.YtolapeocdaknjaaCodeE
import Derived.Test.YtolapeocdaknjaaMemJ
import Derived.Deep.RegionWith
namespace Go.Proofs.Ytolapeocdaknjaa
open Go.RowKit
set_option linter.unusedVariables false
set_option linter.unusedSimpArgs false

theorem refIn_any8 (n lo hi : Int) (w : World) (r : Bool) (hr : inB n lo hi = r) :
    Calls Try.prog 28 #[.int .i64 n, .int .i64 lo, .int .i64 hi] w fun e w' => e = .returned (.bool r) ∧ w = w' := by
  by_cases h : lo ≤ n
  · go_enter Try.func28, Try.ntmps28
    go_wp2
    go_ret
    exact ⟨ret_bool (by rw [← hr, inB, decide_eq_true h, Bool.true_and]), rfl⟩
  · go_enter Try.func28, Try.ntmps28
    go_wp2
    go_ret
    exact ⟨ret_bool (by rw [← hr, inB, decide_eq_false (by omega), Bool.false_and]), rfl⟩

/-- a text, closed to the walk -/
def tx (l : List UInt8) : Value := .string ⟨l.toArray⟩
theorem tx_append (a b : List UInt8) : (⟨a.toArray⟩ : ByteArray) ++ ⟨b.toArray⟩ = ⟨(a ++ b).toArray⟩ := by
  apply ByteArray.ext
  rw [ByteArray.data_append]
  simp
theorem run_tx_add (x y : List UInt8) (h : x.length + y.length ≤ 9223372036854775807) (w : World) : (binOp .add 9 (tx x) (tx y)).run Try.prog w = .ok (tx (x ++ y)) w := by
  have h2 := run_string_add_sum (P := Try.prog) w ⟨x.toArray⟩ ⟨y.toArray⟩ (by
    show x.toArray.size + y.toArray.size ≤ _
    simpa using h)
  simp only [tx]
  simp [binOp, Sem.run_bind, run_underlying Try.underlying9, Result.andThen, h2, tx_append]

def encT (l : List (Nat × Nat)) : List UInt8 := l.flatMap fun p => encN p.1 p.2
theorem encT_step {l : List (Nat × Nat)} {k : Nat} (hk : k < l.length) : encT (l.take (k + 1)) = encT (l.take k) ++ encN l[k].1 l[k].2 := by
  simp only [encT]
  rw [List.take_succ_eq_append_getElem hk, List.flatMap_append]
  simp only [List.flatMap_cons, List.flatMap_nil, List.append_nil]
theorem encT_le {l : List (Nat × Nat)} (h : ∀ p ∈ l, p.1 ≤ 8) : (encT l).length ≤ l.length * 8 := by
  induction l with
  | nil => simp [encT]
  | cons p r ih =>
    have h1 := ih fun q hq => h q (List.mem_cons_of_mem _ hq)
    have h2 := h p List.mem_cons_self
    simp only [encT, List.flatMap_cons, List.length_append, encN_length, List.length_cons] at *
    omega

set_option maxRecDepth 100000 in
set_option maxHeartbeats 1600000 in
theorem text_any (w : World) (b1 o1 c1 b2 o2 c2 n : Nat) (l : List (Nat × Nat)) (hl : l.length = n) (h0 : 0 < n) (hn : n ≤ 100) (hw : ∀ p ∈ l, p.1 ≤ 8 ∧ p.2 < 9223372036854775808) (h1 : Ints w (some ⟨b1, o1, none⟩) n c1 (l.map fun p => (p.2 : Int))) (h2 : Ints w (some ⟨b2, o2, none⟩) n c2 (l.map fun p => (p.1 : Int))) :
    Calls Try.prog 29 #[.slice (some ⟨b1, o1, none⟩) n c1, .slice (some ⟨b2, o2, none⟩) n c2] w fun e w' => e = .returned (.string ⟨(encT l).toArray⟩) ∧ Below w.heap.size w w' := by
  change Calls Try.prog 29 #[.slice (some ⟨b1, o1, none⟩) n c1, .slice (some ⟨b2, o2, none⟩) n c2] w fun e w' => e = .returned (tx (encT l)) ∧ Below w.heap.size w w'
  obtain ⟨_, _, e1, hb1, hc1⟩ := h1.row.lit (by rw [i64s_length]; simp; omega)
  obtain ⟨_, _, e2, hb2, hc2⟩ := h2.row.lit (by rw [i64s_length]; simp; omega)
  cases e1
  cases e2
  have HC1 := Lib.hid hc1
  have HC2 := Lib.hid hc2
  have HW := Lib.hid hw
  have hlen := Lib.hid hl
  have a1 := h1.cap
  have a2 := h1.most
  have a3 := h2.cap
  have a4 := h2.most
  have hE : (Value.string ⟨#[]⟩) = tx [] := rfl
  clear h1 h2 hc1 hc2 hw hl
  go_enter Try.func29, Try.ntmps29
  go_wp2
  go_loopw [5, 6] (fun s i wr => ∃ k : Nat, k ≤ n ∧ i = .int .i64 k ∧ s = tx (encT (l.take k)) ∧ Below w.heap.size w wr) (fun _ i _ => n - (intOf i).toNat)
  case atStart => exact ⟨0, by omega, rfl, rfl, Below.refl _ _⟩
  case round =>
    obtain ⟨k, hk, rfl, rfl, hbel⟩ := hrel
    clear hE
    by_cases hlt : k < n
    · have hkl : k < l.length := by have := hlen.out; omega
      have hd := hbel.drew
      have q1 : wr.drew.cell? ⟨b1, o1 + k, none⟩ = some (.int .i64 (l[k].2 : Int)) := by
        have := HC1.out k _ (i64s_at (l.map fun p => (p.2 : Int)) k (by simpa using hkl))
        rw [List.getElem_map] at this
        exact (hd.cell (p := ⟨b1, o1 + k, none⟩) hb1).trans this
      have q2 : wr.drew.cell? ⟨b2, o2 + k, none⟩ = some (.int .i64 (l[k].1 : Int)) := by
        have := HC2.out k _ (i64s_at (l.map fun p => (p.1 : Int)) k (by simpa using hkl))
        rw [List.getElem_map] at this
        exact (hd.cell (p := ⟨b2, o2 + k, none⟩) hb2).trans this
      obtain ⟨f1, f2⟩ := HW.out l[k] (List.getElem_mem _)
      have BY := Lib.hid (fun W => Bytes_any l[k].2 l[k].1 W f2 f1)
      have hle := encT_le (l := l.take k) fun p hp => (HW.out p (List.mem_of_mem_take hp)).1
      rw [List.length_take] at hle
      have hadd := run_tx_add (encT (l.take k)) (encN l[k].1 l[k].2) (by rw [encN_length]; omega)
      have hst := Lib.hid (encT_step hkl)
      rw [← hst.out] at hadd
      clear hle
      generalize l[k].1 = wd at *
      generalize l[k].2 = x at *
      generalize encN wd x = bytes at *
      go_wp2
      go_region_with (first | (go_at_call 14; (with_reducible refine (BY.out _).mono ?_); rintro e w2 ⟨v2, rfl, ho2, hbb⟩; have hb3 := hd.trans (hbb.mono hd.size); have hcv : (convert 24 9 v2).run Try.prog w2 = .ok (tx bytes) w2 := (by obtain ⟨A', c', hv, hB⟩ := Bytes8.of_own ho2; rw [hv]; exact run_str hB)))
      all_goals clear q1 q2
      all_goals go_wp2
      all_goals go_roundw
      all_goals first
        | exact ⟨k + 1, by omega, by go_num, rfl, hb3⟩
        | (simp [intOf]; omega)
    · obtain rfl : n = k := by omega
      have htk : l.take n = l := List.take_of_length_le (by have := hlen.out; omega)
      rw [htk]
      go_wp2
      go_ret
      exact ⟨rfl, hbel⟩

end Go.Proofs.Ytolapeocdaknjaa
