/-
  Joined: ValP, ValQ, ValR.
-/
import Derived.Deep.RegionWith
import Derived.Test.YtoacgoelhidmbaaJTly17
import Derived.Test.YtoacgoelhidmbaaJTly09
import Derived.Test.YtoacgoelhidmbaaJTly07
import Derived.Test.YtoacgoelhidmbaaJTly06
/-
  Layer 8's reference: in, text.
-/
namespace Go.Proofs.Ytoacgoelhidmbaa
open Go.RowKit
set_option linter.unusedVariables false
set_option linter.unusedSimpArgs false

set_option maxRecDepth 100000 in
theorem refIn_any8 (n lo hi : Int) (w : World) (r : Bool) (hr : inB n lo hi = r) :
    Calls Try.prog 26 #[.int .i64 n, .int .i64 lo, .int .i64 hi] w fun e w' => e = .returned (.bool r) ∧ w = w' := by
  by_cases h : lo ≤ n
  · go_enter Try.func26, Try.ntmps26
    go_wp2
    go_ret
    exact ⟨ret_bool (by rw [← hr, inB, decide_eq_true h, Bool.true_and]), rfl⟩
  · go_enter Try.func26, Try.ntmps26
    go_wp2
    go_ret
    exact ⟨ret_bool (by rw [← hr, inB, decide_eq_false (by omega), Bool.false_and]), rfl⟩

/-- a text, closed to the walk -/
def tx (l : List UInt8) : Value := .string ⟨l.toArray⟩
theorem tx_append (a b : List UInt8) : (⟨a.toArray⟩ : ByteArray) ++ ⟨b.toArray⟩ = ⟨(a ++ b).toArray⟩ := by
  apply ByteArray.ext
  rw [ByteArray.data_append]
  simp
theorem run_tx_add (x y : List UInt8) (h : x.length + y.length ≤ 9223372036854775807) (w : World) : (binOp .add 9 (tx x) (tx y)).run Try.prog w = .ok (tx (x ++ y)) w := by
  have h2 := run_string_add_sum (P := Try.prog) w ⟨x.toArray⟩ ⟨y.toArray⟩ (by
    show x.toArray.size + y.toArray.size ≤ _
    simpa using h)
  simp only [tx]
  simp [binOp, Sem.run_bind, run_underlying Try.underlying9, Result.andThen, h2, tx_append]

def encT (l : List (Nat × Nat)) : List UInt8 := l.flatMap fun p => encN p.1 p.2
theorem encT_step {l : List (Nat × Nat)} {k : Nat} (hk : k < l.length) : encT (l.take (k + 1)) = encT (l.take k) ++ encN l[k].1 l[k].2 := by
  simp only [encT]
  rw [List.take_succ_eq_append_getElem hk, List.flatMap_append]
  simp only [List.flatMap_cons, List.flatMap_nil, List.append_nil]
theorem encT_le {l : List (Nat × Nat)} (h : ∀ p ∈ l, p.1 ≤ 8) : (encT l).length ≤ l.length * 8 := by
  induction l with
  | nil => simp [encT]
  | cons p r ih =>
    have h1 := ih fun q hq => h q (List.mem_cons_of_mem _ hq)
    have h2 := h p List.mem_cons_self
    simp only [encT, List.flatMap_cons, List.length_append, encN_length, List.length_cons] at *
    omega

set_option maxRecDepth 100000 in
set_option maxHeartbeats 1600000 in
theorem text_any (w : World) (b1 o1 c1 b2 o2 c2 n : Nat) (l : List (Nat × Nat)) (hl : l.length = n) (h0 : 0 < n) (hn : n ≤ 100) (hw : ∀ p ∈ l, p.1 ≤ 8 ∧ p.2 < 9223372036854775808) (h1 : Ints w (some ⟨b1, o1, none⟩) n c1 (l.map fun p => (p.2 : Int))) (h2 : Ints w (some ⟨b2, o2, none⟩) n c2 (l.map fun p => (p.1 : Int))) :
    Calls Try.prog 27 #[.slice (some ⟨b1, o1, none⟩) n c1, .slice (some ⟨b2, o2, none⟩) n c2] w fun e w' => e = .returned (.string ⟨(encT l).toArray⟩) ∧ Below w.heap.size w w' := by
  change Calls Try.prog 27 #[.slice (some ⟨b1, o1, none⟩) n c1, .slice (some ⟨b2, o2, none⟩) n c2] w fun e w' => e = .returned (tx (encT l)) ∧ Below w.heap.size w w'
  obtain ⟨_, _, e1, hb1, hc1⟩ := h1.row.lit (by rw [i64s_length]; simp; omega)
  obtain ⟨_, _, e2, hb2, hc2⟩ := h2.row.lit (by rw [i64s_length]; simp; omega)
  cases e1
  cases e2
  have HC1 := Lib.hid hc1
  have HC2 := Lib.hid hc2
  have HW := Lib.hid hw
  have hlen := Lib.hid hl
  have a1 := h1.cap
  have a2 := h1.most
  have a3 := h2.cap
  have a4 := h2.most
  have hE : (Value.string ⟨#[]⟩) = tx [] := rfl
  clear h1 h2 hc1 hc2 hw hl
  go_enter Try.func27, Try.ntmps27
  go_wp2
  go_loopw [5, 6] (fun s i wr => ∃ k : Nat, k ≤ n ∧ i = .int .i64 k ∧ s = tx (encT (l.take k)) ∧ Below w.heap.size w wr) (fun _ i _ => n - (intOf i).toNat)
  case atStart => exact ⟨0, by omega, rfl, rfl, Below.refl _ _⟩
  case round =>
    obtain ⟨k, hk, rfl, rfl, hbel⟩ := hrel
    clear hE
    by_cases hlt : k < n
    · have hkl : k < l.length := by have := hlen.out; omega
      have hd := hbel.drew
      have q1 : wr.drew.cell? ⟨b1, o1 + k, none⟩ = some (.int .i64 (l[k].2 : Int)) := by
        have := HC1.out k _ (i64s_at (l.map fun p => (p.2 : Int)) k (by simpa using hkl))
        rw [List.getElem_map] at this
        exact (hd.cell (p := ⟨b1, o1 + k, none⟩) hb1).trans this
      have q2 : wr.drew.cell? ⟨b2, o2 + k, none⟩ = some (.int .i64 (l[k].1 : Int)) := by
        have := HC2.out k _ (i64s_at (l.map fun p => (p.1 : Int)) k (by simpa using hkl))
        rw [List.getElem_map] at this
        exact (hd.cell (p := ⟨b2, o2 + k, none⟩) hb2).trans this
      obtain ⟨f1, f2⟩ := HW.out l[k] (List.getElem_mem _)
      have BY := Lib.hid (fun W => Bytes_any l[k].2 l[k].1 W f2 f1)
      have hle := encT_le (l := l.take k) fun p hp => (HW.out p (List.mem_of_mem_take hp)).1
      rw [List.length_take] at hle
      have hadd := run_tx_add (encT (l.take k)) (encN l[k].1 l[k].2) (by rw [encN_length]; omega)
      have hst := Lib.hid (encT_step hkl)
      rw [← hst.out] at hadd
      clear hle
      generalize l[k].1 = wd at *
      generalize l[k].2 = x at *
      generalize encN wd x = bytes at *
      go_wp2
      go_region_with (first | (go_at_call 32; (with_reducible refine (BY.out _).mono ?_); rintro e w2 ⟨v2, rfl, ho2, hbb⟩; have hb3 := hd.trans (hbb.mono hd.size); have hcv : (convert 65 9 v2).run Try.prog w2 = .ok (tx bytes) w2 := (by obtain ⟨A', c', hv, hB⟩ := Bytes8.of_own ho2; rw [hv]; exact run_str hB)))
      all_goals clear q1 q2
      all_goals go_wp2
      all_goals go_roundw
      all_goals first
        | exact ⟨k + 1, by omega, by go_num, rfl, hb3⟩
        | (simp [intOf]; omega)
    · obtain rfl : n = k := by omega
      have htk : l.take n = l := List.take_of_length_le (by have := hlen.out; omega)
      rw [htk]
      go_wp2
      go_ret
      exact ⟨rfl, hbel⟩

end Go.Proofs.Ytoacgoelhidmbaa

/-
  Layer 8's reference: Map, Detail, Slot, Root, Count.
-/
namespace Go.Proofs.Ytoacgoelhidmbaa
open Go.RowKit
set_option linter.unusedVariables false
set_option linter.unusedSimpArgs false

theorem ints_new {W : World} {q n : Nat} {t : TypeId} {l : List Int} (h : W.heap[q]? = some (.cells (i64s l).toArray t (0, 0))) (hl : l.length = n) (hn : n ≤ 100) : Ints W (some ⟨q, 0, none⟩) n n l := ⟨hl, Nat.le_refl _, by omega, Row.of_block h⟩

theorem text_new (w : World) (l : List (Nat × Nat)) (n : Nat) (hl : l.length = n) (h0 : 0 < n) (hn : n ≤ 100) (hw : ∀ p ∈ l, p.1 ≤ 8 ∧ p.2 < 9223372036854775808) :
    Calls Try.prog 27 #[.slice (some ⟨w.heap.size, 0, none⟩) n n, .slice (some ⟨w.heap.size + 1, 0, none⟩) n n] ((w.alloc (.cells (i64s (l.map fun p => (p.2 : Int))).toArray 3)).alloc (.cells (i64s (l.map fun p => (p.1 : Int))).toArray 3)) fun e w' => e = .returned (.string ⟨(encT l).toArray⟩) ∧ Below w.heap.size w w' := by
  obtain ⟨h1, h2, h3⟩ := two_new8 w (.cells (i64s (l.map fun p => (p.2 : Int))).toArray 3) (.cells (i64s (l.map fun p => (p.1 : Int))).toArray 3)
  exact (text_any _ w.heap.size 0 n (w.heap.size + 1) 0 n n l hl h0 hn hw (ints_new h1 (by simpa using hl) hn) (ints_new h2 (by simpa using hl) hn)).mono fun e w' ⟨g1, g2⟩ => ⟨g1, h3.trans (g2.mono h3.size)⟩

theorem encT_zip {ns : List NumS} {vs : List Int} : encT ((ns.zip vs).map fun p => (p.1.1, p.2.toNat)) = encP (ns.zip vs) := by
  simp only [encT, encP, List.flatMap_map]

theorem bldP_ok {l : List (NumS × Int)} (h : okP l = true) : bldP l = encP l := by rw [bldP, if_pos h]
theorem bldP_no {l : List (NumS × Int)} (h : okP l = false) : bldP l = [] := by rw [bldP, h]; rfl

/-- the widths and the numbers of a list that may be built -/
theorem zip_fit {ns : List NumS} {vs : List Int} (hf : ∀ p ∈ ns, fitN p) (ho : okP (ns.zip vs) = true) : ∀ p ∈ (ns.zip vs).map (fun p => (p.1.1, p.2.toNat)), p.1 ≤ 8 ∧ p.2 < 9223372036854775808 := by
  intro p hp
  obtain ⟨q, hq, rfl⟩ := List.mem_map.1 hp
  have h1 := List.all_eq_true.1 (show (ns.zip vs).all _ = true from ho) q hq
  rw [inB_iff] at h1
  obtain ⟨_, f2, f3, f4, _⟩ := fit_zip hf vs q hq
  refine ⟨f2, ?_⟩
  simp only
  omega

/-- text of a list that may be built -/
theorem text_zip (w : World) (ns : List NumS) (vs : List Int) (n : Nat) (hn : (ns.zip vs).length = n) (h0 : 0 < n) (h1 : n ≤ 100) (hf : ∀ p ∈ ns, fitN p) (ho : okP (ns.zip vs) = true) (cs : Array Value) (ds : Array Value) (hc : cs = (i64s ((ns.zip vs).map (·.2))).toArray) (hd : ds = (i64s ((ns.zip vs).map fun p => (p.1.1 : Int))).toArray) :
    Calls Try.prog 27 #[.slice (some ⟨w.heap.size, 0, none⟩) n n, .slice (some ⟨w.heap.size + 1, 0, none⟩) n n] ((w.alloc (.cells cs 3)).alloc (.cells ds 3)) fun e w' => e = .returned (.string ⟨(bldP (ns.zip vs)).toArray⟩) ∧ Below w.heap.size w w' := by
  have h := text_new w ((ns.zip vs).map fun p => (p.1.1, p.2.toNat)) n (by rw [List.length_map]; exact hn) h0 h1 (zip_fit hf ho)
  rw [encT_zip, List.map_map, List.map_map] at h
  have e1 : ((ns.zip vs).map ((fun p : Nat × Nat => (p.2 : Int)) ∘ fun p => (p.1.1, p.2.toNat))) = (ns.zip vs).map (·.2) := by
    apply List.map_congr_left
    intro q hq
    have h1 := List.all_eq_true.1 (show (ns.zip vs).all _ = true from ho) q hq
    rw [inB_iff] at h1
    obtain ⟨_, _, f3, _⟩ := fit_zip hf vs q hq
    simp only [Function.comp]
    omega
  rw [e1] at h
  rw [bldP_ok ho, hc, hd]
  exact h

set_option maxRecDepth 100000 in
set_option maxHeartbeats 1600000 in
theorem refCount_any8 (w : World) (n : Int) :
    Calls Try.prog 17 #[.int .i64 n] w fun e w' => e = .returned (.string ⟨(countB n).toArray⟩) ∧ Below w.heap.size w w' := by
  cases e0 : inB n 3 2147483647 with
  | false =>
    have hno := Lib.hid (bldP_no (l := countS.zip [n]) (by simp [okP, countS, e0]))
    have I0 := Lib.hid (fun W => refIn_any8 n 3 2147483647 W false e0)
    clear e0
    go_enter Try.func17, Try.ntmps17
    go_wp2_with (go_at_call 26; (with_reducible refine (I0.out _).mono ?_); rintro e w' ⟨rfl, rfl⟩)
    go_ret
    exact ⟨by rw [countB, hno.out]; rfl, Below.refl _ _⟩
  | true =>
    have ho : okP (countS.zip [n]) = true := by simp [okP, countS, e0]
    have TX := Lib.hid (fun W => text_zip W countS [n] 1 rfl (by omega) (by omega) countS_fit ho #[.int .i64 n] #[.int .i64 4] rfl rfl)
    have I0 := Lib.hid (fun W => refIn_any8 n 3 2147483647 W true e0)
    clear e0 ho
    go_enter Try.func17, Try.ntmps17
    go_wp2_with (first
      | (go_at_call 26; (with_reducible refine (I0.out _).mono ?_); rintro e w' ⟨rfl, rfl⟩)
      | (go_at_call 27; (with_reducible refine (TX.out _).mono ?_); rintro e w1 ⟨rfl, hb1⟩))
    go_ret
    exact ⟨rfl, hb1⟩

end Go.Proofs.Ytoacgoelhidmbaa

/-
  Layer 8's reference: ReadMap, ReadRoot, ReadCount.
-/
namespace Go.Proofs.Ytoacgoelhidmbaa
open Go.RowKit
set_option linter.unusedVariables false
set_option linter.unusedSimpArgs false

/-- what is read of one number of four bytes -/
theorem rd_four {s : List UInt8} {lo hi : Int} (h : s.length = 4) : rdE s [(4, lo, hi)] = (if inB (leN s) lo hi then 0 else 2) ∧ rdV s [(4, lo, hi)] 0 = (if inB (leN s) lo hi then (leN s : Int) else 0) := by
  have ht : s.take 4 = s := List.take_of_length_le (by omega)
  have hp : psI s [(4, lo, hi)] = [(leN s : Int)] := by simp [psI, partsN, ht]
  have hk : okR s [(4, lo, hi)] = inB (leN s) lo hi := by
    rw [okR_rdL, rdL, hp]
    simp [okP]
  have he : rdE s [(4, lo, hi)] = (if inB (leN s) lo hi then 0 else 2) := by
    rw [rdE, if_neg (by rw [h]; simp [sizeN]), hk]
  refine ⟨he, ?_⟩
  rw [rdV, he, hp]
  cases inB (leN s) lo hi <;> rfl
theorem rd_len {s : List UInt8} {ns : List NumS} (h : s.length ≠ sizeN ns) : rdE s ns = 7 ∧ ∀ k, rdV s ns k = 0 := by
  have he : rdE s ns = 7 := by rw [rdE, if_pos h]
  exact ⟨he, fun k => by rw [rdV, if_neg (by rw [he]; omega)]⟩

theorem val_small {l : List UInt8} {k : Nat} (hk : k ≤ 4) (hl : l.length = k) : leN l < 4294967296 := by
  have := leN_lt l
  have h2 : 256 ^ l.length ≤ 256 ^ 4 := Nat.pow_le_pow_right (by omega) (by omega)
  omega
theorem val_get4 {l : List UInt8} (hl : l.length = 4) : getE l 0 4 = 0 ∧ getN l 0 4 = (leN l : Int) := by
  have hr : roomE l.length 0 4 = 0 := by
    rw [hl]
    rfl
  have hp : part l 0 4 = l := by
    simp only [part]
    exact List.take_of_length_le (by rw [List.length_drop, hl]; decide)
  have hs := val_small (Nat.le_refl 4) hl
  have he : getE l 0 4 = 0 := by rw [getE, if_pos hr, hp, if_neg (by omega)]
  exact ⟨he, by rw [getN, if_pos he, hp]⟩

set_option maxRecDepth 100000 in
set_option maxHeartbeats 1600000 in
theorem four_any (w : World) (s : List UInt8) (hs : s.length ≤ 9223372036854775807) (lo hi : Int) (h1 : i64b lo) (h2 : i64b hi) :
    Calls Try.prog 29 #[.string ⟨s.toArray⟩, .int .i64 lo, .int .i64 hi] w fun e w' => e = .returned (.tuple #[.int .i64 (rdV s [(4, lo, hi)] 0), .int .i64 (rdE s [(4, lo, hi)])]) ∧ Below w.heap.size w w' := by
  by_cases hl : s.length = 4
  · obtain ⟨e1, e2⟩ := rd_four (lo := lo) (hi := hi) hl
    obtain ⟨g1, g2⟩ := val_get4 hl
    have hsm := val_small (Nat.le_refl 4) hl
    obtain ⟨c', W1, hcv, hB, hbel⟩ := conv_bytes s w (by omega)
    have GT : Hid (Calls Try.prog 34 #[.slice (some ⟨w.heap.size, 0, none⟩) 4 c', .int .i64 0, .int .i64 4] W1 fun e w' => e = .returned (.tuple #[.int .i64 (leN s : Int), .int .i64 0]) ∧ W1 = w') := by
      have := refGet_any _ _ _ s 0 4 W1 hB (by omega)
      rw [g1, g2, hl] at this
      exact this
    rw [hl] at hcv
    have hne : ((s.length : Int) != 4) = false := by rw [hl]; rfl
    have HBel := Lib.hid hbel
    rw [e1, e2]
    clear e1 e2 g1 g2 hB hbel hl hs
    cases hin : inB (leN s) lo hi with
    | false =>
      have IN := Lib.hid (fun W => refIn_any8 (leN s) lo hi W false hin)
      clear hin
      generalize leN s = x at *
      go_enter Try.func29, Try.ntmps29
      go_wp2_with (first
        | (go_at_call 34; (with_reducible refine (GT.out).mono ?_); rintro e w' ⟨rfl, rfl⟩)
        | (go_at_call 26; (with_reducible refine (IN.out _).mono ?_); rintro e w' ⟨rfl, rfl⟩))
      go_ret2
      exact ⟨rfl, HBel.out⟩
    | true =>
      have IN := Lib.hid (fun W => refIn_any8 (leN s) lo hi W true hin)
      clear hin
      generalize leN s = x at *
      go_enter Try.func29, Try.ntmps29
      go_wp2_with (first
        | (go_at_call 34; (with_reducible refine (GT.out).mono ?_); rintro e w' ⟨rfl, rfl⟩)
        | (go_at_call 26; (with_reducible refine (IN.out _).mono ?_); rintro e w' ⟨rfl, rfl⟩))
      go_ret2
      exact ⟨rfl, HBel.out⟩
  · obtain ⟨e1, e2⟩ := rd_len (s := s) (ns := [(4, lo, hi)]) (by simpa [sizeN] using hl)
    rw [e1, e2 0]
    have hne : ((s.length : Int) != 4) = true := by rw [bne_iff_ne]; omega
    clear e1 e2 hl hs
    go_enter Try.func29, Try.ntmps29
    go_wp2
    go_ret2
    exact ⟨rfl, Below.refl _ _⟩

set_option maxRecDepth 100000 in
theorem refReadCount_any8L (w : World) (s : List UInt8) (hs : s.length ≤ 9223372036854775807) :
    Calls Try.prog 22 #[.string ⟨s.toArray⟩] w fun e w' => e = .returned (.tuple #[.int .i64 (rdV s countS 0), .int .i64 (rdE s countS)]) ∧ Below w.heap.size w w' := by
  have F := Lib.hid (four_any w s hs 3 2147483647 (by simp [i64b]) (by simp [i64b]))
  change Hid (Calls Try.prog 29 #[.string ⟨s.toArray⟩, .int .i64 3, .int .i64 2147483647] w fun e w' => e = .returned (.tuple #[.int .i64 (rdV s countS 0), .int .i64 (rdE s countS)]) ∧ Below w.heap.size w w') at F
  generalize rdV s countS 0 = v at *
  generalize rdE s countS = e0 at *
  go_enter Try.func22, Try.ntmps22
  go_wp2_with (go_at_call 29; (with_reducible refine (F.out).mono ?_); rintro e w1 ⟨rfl, hb1⟩)
  go_ret2
  exact ⟨rfl, hb1⟩
end Go.Proofs.Ytoacgoelhidmbaa
