/-
  Joined: ValP, ValQ, ValR, ValS.
-/
import Derived.Deep.RegionWith
import Derived.Test.YtbeobbanppkmhaaGreatDoorJBlkC27
import Derived.Test.YtbeobbanppkmhaaGreatDoorJBlkC14
import Derived.Test.YtbeobbanppkmhaaGreatDoorJBlkC11
import Derived.Test.YtbeobbanppkmhaaGreatDoorJBlkC10
/-
  Layer 8's reference: in, text.
-/
namespace Go.Proofs.YtbeobbanppkmhaaGreatDoor
open Go.RowKit
set_option linter.unusedVariables false
set_option linter.unusedSimpArgs false

set_option maxRecDepth 100000 in
theorem refIn_any8 (n lo hi : Int) (w : World) (r : Bool) (hr : inB n lo hi = r) :
    Calls Tryz.prog 158 #[.int .i64 n, .int .i64 lo, .int .i64 hi] w fun e w' => e = .returned (.bool r) ∧ w = w' := by
  by_cases h : lo ≤ n
  · go_enter Tryz.func158, Tryz.ntmps158
    go_wp2
    go_ret
    exact ⟨ret_bool (by rw [← hr, inB, decide_eq_true h, Bool.true_and]), rfl⟩
  · go_enter Tryz.func158, Tryz.ntmps158
    go_wp2
    go_ret
    exact ⟨ret_bool (by rw [← hr, inB, decide_eq_false (by omega), Bool.false_and]), rfl⟩

/-- a text, closed to the walk -/
def tx (l : List UInt8) : Value := .string ⟨l.toArray⟩
theorem tx_append (a b : List UInt8) : (⟨a.toArray⟩ : ByteArray) ++ ⟨b.toArray⟩ = ⟨(a ++ b).toArray⟩ := by
  apply ByteArray.ext
  rw [ByteArray.data_append]
  simp
theorem run_tx_add (x y : List UInt8) (h : x.length + y.length ≤ 9223372036854775807) (w : World) : (binOp .add 9 (tx x) (tx y)).run Tryz.prog w = .ok (tx (x ++ y)) w := by
  have h2 := run_string_add_sum (P := Tryz.prog) w ⟨x.toArray⟩ ⟨y.toArray⟩ (by
    show x.toArray.size + y.toArray.size ≤ _
    simpa using h)
  simp only [tx]
  simp [binOp, Sem.run_bind, run_underlying Tryz.underlying9, Result.andThen, h2, tx_append]

def encT (l : List (Nat × Nat)) : List UInt8 := l.flatMap fun p => encN p.1 p.2
theorem encT_step {l : List (Nat × Nat)} {k : Nat} (hk : k < l.length) : encT (l.take (k + 1)) = encT (l.take k) ++ encN l[k].1 l[k].2 := by
  simp only [encT]
  rw [List.take_succ_eq_append_getElem hk, List.flatMap_append]
  simp only [List.flatMap_cons, List.flatMap_nil, List.append_nil]
theorem encT_le {l : List (Nat × Nat)} (h : ∀ p ∈ l, p.1 ≤ 8) : (encT l).length ≤ l.length * 8 := by
  induction l with
  | nil => simp [encT]
  | cons p r ih =>
    have h1 := ih fun q hq => h q (List.mem_cons_of_mem _ hq)
    have h2 := h p List.mem_cons_self
    simp only [encT, List.flatMap_cons, List.length_append, encN_length, List.length_cons] at *
    omega

set_option maxRecDepth 100000 in
set_option maxHeartbeats 1600000 in
theorem text_any (w : World) (b1 o1 c1 b2 o2 c2 n : Nat) (l : List (Nat × Nat)) (hl : l.length = n) (h0 : 0 < n) (hn : n ≤ 100) (hw : ∀ p ∈ l, p.1 ≤ 8 ∧ p.2 < 9223372036854775808) (h1 : Ints w (some ⟨b1, o1, none⟩) n c1 (l.map fun p => (p.2 : Int))) (h2 : Ints w (some ⟨b2, o2, none⟩) n c2 (l.map fun p => (p.1 : Int))) :
    Calls Tryz.prog 159 #[.slice (some ⟨b1, o1, none⟩) n c1, .slice (some ⟨b2, o2, none⟩) n c2] w fun e w' => e = .returned (.string ⟨(encT l).toArray⟩) ∧ Below w.heap.size w w' := by
  change Calls Tryz.prog 159 #[.slice (some ⟨b1, o1, none⟩) n c1, .slice (some ⟨b2, o2, none⟩) n c2] w fun e w' => e = .returned (tx (encT l)) ∧ Below w.heap.size w w'
  obtain ⟨_, _, e1, hb1, hc1⟩ := h1.row.lit (by rw [i64s_length]; simp; omega)
  obtain ⟨_, _, e2, hb2, hc2⟩ := h2.row.lit (by rw [i64s_length]; simp; omega)
  cases e1
  cases e2
  have HC1 := Lib.hid hc1
  have HC2 := Lib.hid hc2
  have HW := Lib.hid hw
  have hlen := Lib.hid hl
  have a1 := h1.cap
  have a2 := h1.most
  have a3 := h2.cap
  have a4 := h2.most
  have hE : (Value.string ⟨#[]⟩) = tx [] := rfl
  clear h1 h2 hc1 hc2 hw hl
  go_enter Tryz.func159, Tryz.ntmps159
  go_wp2
  go_loopw [5, 6] (fun s i wr => ∃ k : Nat, k ≤ n ∧ i = .int .i64 k ∧ s = tx (encT (l.take k)) ∧ Below w.heap.size w wr) (fun _ i _ => n - (intOf i).toNat)
  case atStart => exact ⟨0, by omega, rfl, rfl, Below.refl _ _⟩
  case round =>
    obtain ⟨k, hk, rfl, rfl, hbel⟩ := hrel
    clear hE
    by_cases hlt : k < n
    · have hkl : k < l.length := by have := hlen.out; omega
      have hd := hbel.drew
      have q1 : wr.drew.cell? ⟨b1, o1 + k, none⟩ = some (.int .i64 (l[k].2 : Int)) := by
        have := HC1.out k _ (i64s_at (l.map fun p => (p.2 : Int)) k (by simpa using hkl))
        rw [List.getElem_map] at this
        exact (hd.cell (p := ⟨b1, o1 + k, none⟩) hb1).trans this
      have q2 : wr.drew.cell? ⟨b2, o2 + k, none⟩ = some (.int .i64 (l[k].1 : Int)) := by
        have := HC2.out k _ (i64s_at (l.map fun p => (p.1 : Int)) k (by simpa using hkl))
        rw [List.getElem_map] at this
        exact (hd.cell (p := ⟨b2, o2 + k, none⟩) hb2).trans this
      obtain ⟨f1, f2⟩ := HW.out l[k] (List.getElem_mem _)
      have BY := Lib.hid (fun W => Bytes_any l[k].2 l[k].1 W f2 f1)
      have hle := encT_le (l := l.take k) fun p hp => (HW.out p (List.mem_of_mem_take hp)).1
      rw [List.length_take] at hle
      have hadd := run_tx_add (encT (l.take k)) (encN l[k].1 l[k].2) (by rw [encN_length]; omega)
      have hst := Lib.hid (encT_step hkl)
      rw [← hst.out] at hadd
      clear hle
      generalize l[k].1 = wd at *
      generalize l[k].2 = x at *
      generalize encN wd x = bytes at *
      go_wp2
      go_region_with (first | (go_at_call 113; (with_reducible refine (BY.out _).mono ?_); rintro e w2 ⟨v2, rfl, ho2, hbb⟩; have hb3 := hd.trans (hbb.mono hd.size); have hcv : (convert 22 9 v2).run Tryz.prog w2 = .ok (tx bytes) w2 := (by obtain ⟨A', c', hv, hB⟩ := Bytes8.of_own ho2; rw [hv]; exact run_str hB)))
      all_goals clear q1 q2
      all_goals go_wp2
      all_goals go_roundw
      all_goals first
        | exact ⟨k + 1, by omega, by go_num, rfl, hb3⟩
        | (simp [intOf]; omega)
    · obtain rfl : n = k := by omega
      have htk : l.take n = l := List.take_of_length_le (by have := hlen.out; omega)
      rw [htk]
      go_wp2
      go_ret
      exact ⟨rfl, hbel⟩

end Go.Proofs.YtbeobbanppkmhaaGreatDoor

/-
  Layer 8's reference: Map, Detail, Slot, Root, Count.
-/
namespace Go.Proofs.YtbeobbanppkmhaaGreatDoor
open Go.RowKit
set_option linter.unusedVariables false
set_option linter.unusedSimpArgs false

theorem ints_new {W : World} {q n : Nat} {t : TypeId} {l : List Int} (h : W.heap[q]? = some (.cells (i64s l).toArray t (0, 0))) (hl : l.length = n) (hn : n ≤ 100) : Ints W (some ⟨q, 0, none⟩) n n l := ⟨hl, Nat.le_refl _, by omega, Row.of_block h⟩

theorem text_new (w : World) (l : List (Nat × Nat)) (n : Nat) (hl : l.length = n) (h0 : 0 < n) (hn : n ≤ 100) (hw : ∀ p ∈ l, p.1 ≤ 8 ∧ p.2 < 9223372036854775808) :
    Calls Tryz.prog 159 #[.slice (some ⟨w.heap.size, 0, none⟩) n n, .slice (some ⟨w.heap.size + 1, 0, none⟩) n n] ((w.alloc (.cells (i64s (l.map fun p => (p.2 : Int))).toArray 3)).alloc (.cells (i64s (l.map fun p => (p.1 : Int))).toArray 3)) fun e w' => e = .returned (.string ⟨(encT l).toArray⟩) ∧ Below w.heap.size w w' := by
  obtain ⟨h1, h2, h3⟩ := two_new8 w (.cells (i64s (l.map fun p => (p.2 : Int))).toArray 3) (.cells (i64s (l.map fun p => (p.1 : Int))).toArray 3)
  exact (text_any _ w.heap.size 0 n (w.heap.size + 1) 0 n n l hl h0 hn hw (ints_new h1 (by simpa using hl) hn) (ints_new h2 (by simpa using hl) hn)).mono fun e w' ⟨g1, g2⟩ => ⟨g1, h3.trans (g2.mono h3.size)⟩

theorem encT_zip {ns : List NumS} {vs : List Int} : encT ((ns.zip vs).map fun p => (p.1.1, p.2.toNat)) = encP (ns.zip vs) := by
  simp only [encT, encP, List.flatMap_map]

theorem bldP_ok {l : List (NumS × Int)} (h : okP l = true) : bldP l = encP l := by rw [bldP, if_pos h]
theorem bldP_no {l : List (NumS × Int)} (h : okP l = false) : bldP l = [] := by rw [bldP, h]; rfl

/-- the widths and the numbers of a list that may be built -/
theorem zip_fit {ns : List NumS} {vs : List Int} (hf : ∀ p ∈ ns, fitN p) (ho : okP (ns.zip vs) = true) : ∀ p ∈ (ns.zip vs).map (fun p => (p.1.1, p.2.toNat)), p.1 ≤ 8 ∧ p.2 < 9223372036854775808 := by
  intro p hp
  obtain ⟨q, hq, rfl⟩ := List.mem_map.1 hp
  have h1 := List.all_eq_true.1 (show (ns.zip vs).all _ = true from ho) q hq
  rw [inB_iff] at h1
  obtain ⟨_, f2, f3, f4, _⟩ := fit_zip hf vs q hq
  refine ⟨f2, ?_⟩
  simp only
  omega

/-- text of a list that may be built -/
theorem text_zip (w : World) (ns : List NumS) (vs : List Int) (n : Nat) (hn : (ns.zip vs).length = n) (h0 : 0 < n) (h1 : n ≤ 100) (hf : ∀ p ∈ ns, fitN p) (ho : okP (ns.zip vs) = true) (cs : Array Value) (ds : Array Value) (hc : cs = (i64s ((ns.zip vs).map (·.2))).toArray) (hd : ds = (i64s ((ns.zip vs).map fun p => (p.1.1 : Int))).toArray) :
    Calls Tryz.prog 159 #[.slice (some ⟨w.heap.size, 0, none⟩) n n, .slice (some ⟨w.heap.size + 1, 0, none⟩) n n] ((w.alloc (.cells cs 3)).alloc (.cells ds 3)) fun e w' => e = .returned (.string ⟨(bldP (ns.zip vs)).toArray⟩) ∧ Below w.heap.size w w' := by
  have h := text_new w ((ns.zip vs).map fun p => (p.1.1, p.2.toNat)) n (by rw [List.length_map]; exact hn) h0 h1 (zip_fit hf ho)
  rw [encT_zip, List.map_map, List.map_map] at h
  have e1 : ((ns.zip vs).map ((fun p : Nat × Nat => (p.2 : Int)) ∘ fun p => (p.1.1, p.2.toNat))) = (ns.zip vs).map (·.2) := by
    apply List.map_congr_left
    intro q hq
    have h1 := List.all_eq_true.1 (show (ns.zip vs).all _ = true from ho) q hq
    rw [inB_iff] at h1
    obtain ⟨_, _, f3, _⟩ := fit_zip hf vs q hq
    simp only [Function.comp]
    omega
  rw [e1] at h
  rw [bldP_ok ho, hc, hd]
  exact h

set_option maxRecDepth 100000 in
set_option maxHeartbeats 1600000 in
theorem refSlot_any8 (w : World) (x f i : Int) :
    Calls Tryz.prog 137 #[.agg #[.int .i64 x, .int .i64 f, .int .i64 i]] w fun e w' => e = .returned (.string ⟨(slotB x f i).toArray⟩) ∧ Below w.heap.size w w' := by
  have hb0 : Below w.heap.size w (w.alloc (.cells #[.int .i64 x, .int .i64 f, .int .i64 i] 108)) := (Below.refl _ _).alloc (Nat.le_refl _) _
  have hz1 : (w.alloc (.cells #[.int .i64 x, .int .i64 f, .int .i64 i] 108)).heap.size = w.heap.size + 1 := by simp
  cases e0 : inB x 1 14399 with
  | false =>
    have hno := Lib.hid (bldP_no (l := slotS.zip [x, f, i]) (by simp [okP, slotS, e0]))
    have I0 := Lib.hid (fun W => refIn_any8 x 1 14399 W false e0)
    clear e0 hz1
    go_enter Tryz.func137, Tryz.ntmps137
    go_wp2_with (first
      | (go_at_call 158; (with_reducible refine (I0.out _).mono ?_); rintro e w' ⟨rfl, rfl⟩))
    go_ret
    exact ⟨by rw [slotB, hno.out]; rfl, hb0⟩
  | true =>
    cases e1 : inB f 0 960 with
    | false =>
      have hno := Lib.hid (bldP_no (l := slotS.zip [x, f, i]) (by simp [okP, slotS, e0, e1]))
      have I0 := Lib.hid (fun W => refIn_any8 x 1 14399 W true e0)
      have I1 := Lib.hid (fun W => refIn_any8 f 0 960 W false e1)
      clear e0 e1 hz1
      go_enter Tryz.func137, Tryz.ntmps137
      go_wp2_with (first
        | (go_at_call 158; (with_reducible refine (I0.out _).mono ?_); rintro e w' ⟨rfl, rfl⟩)
        | (go_at_call 158; (with_reducible refine (I1.out _).mono ?_); rintro e w' ⟨rfl, rfl⟩))
      go_ret
      exact ⟨by rw [slotB, hno.out]; rfl, hb0⟩
    | true =>
      cases e2 : inB i 0 960 with
      | false =>
        have hno := Lib.hid (bldP_no (l := slotS.zip [x, f, i]) (by simp [okP, slotS, e0, e1, e2]))
        have I0 := Lib.hid (fun W => refIn_any8 x 1 14399 W true e0)
        have I1 := Lib.hid (fun W => refIn_any8 f 0 960 W true e1)
        have I2 := Lib.hid (fun W => refIn_any8 i 0 960 W false e2)
        clear e0 e1 e2 hz1
        go_enter Tryz.func137, Tryz.ntmps137
        go_wp2_with (first
          | (go_at_call 158; (with_reducible refine (I0.out _).mono ?_); rintro e w' ⟨rfl, rfl⟩)
          | (go_at_call 158; (with_reducible refine (I1.out _).mono ?_); rintro e w' ⟨rfl, rfl⟩)
          | (go_at_call 158; (with_reducible refine (I2.out _).mono ?_); rintro e w' ⟨rfl, rfl⟩))
        go_ret
        exact ⟨by rw [slotB, hno.out]; rfl, hb0⟩
      | true =>
        have ho : okP (slotS.zip [x, f, i]) = true := by simp [okP, slotS, e0, e1, e2]
        have TX : Hid (Calls Tryz.prog 159 #[.slice (some ⟨w.heap.size + 1, 0, none⟩) 3 3, .slice (some ⟨w.heap.size + 2, 0, none⟩) 3 3] (((w.alloc (.cells #[.int .i64 x, .int .i64 f, .int .i64 i] 108)).alloc (.cells #[.int .i64 x, .int .i64 f, .int .i64 i] 3)).alloc (.cells #[.int .i64 8, .int .i64 4, .int .i64 4] 3)) fun e w' => e = .returned (.string ⟨(bldP (slotS.zip [x, f, i])).toArray⟩) ∧ Below w.heap.size w w') := by
          have h := text_zip (w.alloc (.cells #[.int .i64 x, .int .i64 f, .int .i64 i] 108)) slotS [x, f, i] 3 rfl (by omega) (by omega) slotS_fit ho #[.int .i64 x, .int .i64 f, .int .i64 i] #[.int .i64 8, .int .i64 4, .int .i64 4] rfl rfl
          rw [hz1] at h
          exact h.mono fun e w' ⟨g1, g2⟩ => ⟨g1, hb0.trans (g2.mono (by omega))⟩
        have I0 := Lib.hid (fun W => refIn_any8 x 1 14399 W true e0)
        have I1 := Lib.hid (fun W => refIn_any8 f 0 960 W true e1)
        have I2 := Lib.hid (fun W => refIn_any8 i 0 960 W true e2)
        clear ho e0 e1 e2
        go_enter Tryz.func137, Tryz.ntmps137
        go_wp2_with (first
          | (go_at_call 158; (with_reducible refine (I0.out _).mono ?_); rintro e w' ⟨rfl, rfl⟩)
          | (go_at_call 158; (with_reducible refine (I1.out _).mono ?_); rintro e w' ⟨rfl, rfl⟩)
          | (go_at_call 158; (with_reducible refine (I2.out _).mono ?_); rintro e w' ⟨rfl, rfl⟩)
          | (go_at_call 159; refine (TX.out).mono ?_; rintro e w1 ⟨rfl, hb1⟩))
        go_ret
        exact ⟨rfl, hb1⟩

end Go.Proofs.YtbeobbanppkmhaaGreatDoor

/-
  Layer 8's reference: ReadMap, ReadRoot, ReadCount.
-/
namespace Go.Proofs.YtbeobbanppkmhaaGreatDoor
open Go.RowKit
set_option linter.unusedVariables false
set_option linter.unusedSimpArgs false

theorem rd_len {s : List UInt8} {ns : List NumS} (h : s.length ≠ sizeN ns) : rdE s ns = 7 ∧ ∀ k, rdV s ns k = 0 := by
  have he : rdE s ns = 7 := by rw [rdE, if_pos h]
  exact ⟨he, fun k => by rw [rdV, if_neg (by rw [he]; omega)]⟩

theorem val_small {l : List UInt8} {k : Nat} (hk : k ≤ 4) (hl : l.length = k) : leN l < 4294967296 := by
  have := leN_lt l
  have h2 : 256 ^ l.length ≤ 256 ^ 4 := Nat.pow_le_pow_right (by omega) (by omega)
  omega
theorem val_get4 {l : List UInt8} (hl : l.length = 4) : getE l 0 4 = 0 ∧ getN l 0 4 = (leN l : Int) := by
  have hr : roomE l.length 0 4 = 0 := by
    rw [hl]
    rfl
  have hp : part l 0 4 = l := by
    simp only [part]
    exact List.take_of_length_le (by rw [List.length_drop, hl]; decide)
  have hs := val_small (Nat.le_refl 4) hl
  have he : getE l 0 4 = 0 := by rw [getE, if_pos hr, hp, if_neg (by omega)]
  exact ⟨he, by rw [getN, if_pos he, hp]⟩

end Go.Proofs.YtbeobbanppkmhaaGreatDoor

/-
  Layer 8's reference: ReadDetail, ReadSlot.
-/
namespace Go.Proofs.YtbeobbanppkmhaaGreatDoor
open Go.RowKit
set_option linter.unusedVariables false
set_option linter.unusedSimpArgs false

theorem val_get_at {l : List UInt8} {wd : Nat} (i : Nat) (hw : isW wd = true) (hi : i + wd ≤ l.length) :
    (leN ((l.drop i).take wd) < 9223372036854775808 → getE l i wd = 0 ∧ getN l i wd = (leN ((l.drop i).take wd) : Int)) ∧ (9223372036854775808 ≤ leN ((l.drop i).take wd) → getE l i wd = 2 ∧ getN l i wd = 0) := by
  have hb : 1 ≤ (wd : Int) ∧ (wd : Int) ≤ 8 := by rcases isW_cases hw with h | h | h | h <;> omega
  have hr : roomE l.length i wd = 0 := by
    simp only [roomE, hw]
    simp
    omega
  have hp : part l i wd = (l.drop i).take wd := by simp [part]
  constructor
  · intro h
    have he : getE l i wd = 0 := by rw [getE, if_pos hr, hp, if_neg (by omega)]
    exact ⟨he, by rw [getN, if_pos he, hp]⟩
  · intro h
    have he : getE l i wd = 2 := by rw [getE, if_pos hr, hp, if_pos h]
    exact ⟨he, by rw [getN, if_neg (by rw [he]; omega)]⟩

/-- are all numbers small enough to be integers -/
def smallB (l : List Int) : Bool := l.all fun v => decide (v < 9223372036854775808)

theorem unp_parts (b : List UInt8) : ∀ (ns : List NumS) (i : Nat), (∀ p ∈ ns, isW (p.1 : Int) = true) → i + sizeN ns ≤ b.length →
    (smallB (psI (b.drop i) ns) = true → unpE b i (ns.map fun p => (p.1 : Int)) = 0 ∧ unpL b i (ns.map fun p => (p.1 : Int)) = psI (b.drop i) ns) ∧
    (smallB (psI (b.drop i) ns) = false → unpE b i (ns.map fun p => (p.1 : Int)) = 2)
  | [], _, _, _ => ⟨fun _ => ⟨rfl, rfl⟩, fun h => by cases h⟩
  | p :: r, i, hw, hs => by
    have hs2 : i + (p.1 + sizeN r) ≤ b.length := by simpa [sizeN] using hs
    obtain ⟨g1, g2⟩ := val_get_at (l := b) (wd := p.1) i (hw p List.mem_cons_self) (by omega)
    obtain ⟨i1, i2⟩ := unp_parts b r (i + p.1) (fun q hq => hw q (List.mem_cons_of_mem _ hq)) (by omega)
    have ep : psI (b.drop i) (p :: r) = (leN ((b.drop i).take p.1) : Int) :: psI (b.drop (i + p.1)) r := by
      simp [psI, partsN, List.drop_drop]
    have ec : ((i + p.1 : Nat) : Int) = (i : Int) + (p.1 : Int) := by omega
    rw [ec] at i1 i2
    simp only [ep, smallB, List.all_cons, List.map_cons, unpE, unpL]
    by_cases hb : leN ((b.drop i).take p.1) < 9223372036854775808
    · obtain ⟨q1, q2⟩ := g1 hb
      have hd : decide ((leN ((b.drop i).take p.1) : Int) < 9223372036854775808) = true := decide_eq_true (by omega)
      rw [q1, q2, hd, Bool.true_and, if_pos rfl]
      exact ⟨fun h => ⟨(i1 h).1, by rw [(i1 h).2]⟩, i2⟩
    · obtain ⟨q1, q2⟩ := g2 (by omega)
      have hd : decide ((leN ((b.drop i).take p.1) : Int) < 9223372036854775808) = false := decide_eq_false (by omega)
      rw [q1, hd, Bool.false_and]
      exact ⟨(fun h => by cases h), fun _ => by rw [if_neg (by omega)]⟩

theorem small_of_ok {s : List UInt8} {ns : List NumS} (hf : ∀ p ∈ ns, fitN p) (h : okR s ns = true) : smallB (psI s ns) = true := by
  rw [smallB, List.all_eq_true]
  intro v hv
  have := psI_bd s ns h hf v hv
  simp only [i64b] at this
  exact decide_eq_true (by omega)

/-- Unpack's answer, and what it means for the value -/
theorem rd_unp {s : List UInt8} {ns : List NumS} (hf : ∀ p ∈ ns, fitN p) (hw : ∀ p ∈ ns, isW (p.1 : Int) = true) (hl : s.length = sizeN ns) :
    (unpE s 0 (ns.map fun p => (p.1 : Int)) = 0 ∧ unpN s (ns.map fun p => (p.1 : Int)) = psI s ns) ∨ (unpE s 0 (ns.map fun p => (p.1 : Int)) = 2 ∧ rdE s ns = 2) := by
  obtain ⟨h1, h2⟩ := unp_parts s ns 0 hw (by omega)
  rw [List.drop_zero] at h1 h2
  cases hs : smallB (psI s ns) with
  | true =>
    obtain ⟨e1, e2⟩ := h1 hs
    exact Or.inl ⟨e1, by rw [unpN]; exact (if_pos e1).trans e2⟩
  | false =>
    refine Or.inr ⟨h2 hs, ?_⟩
    rw [rdE, if_neg (by omega), if_neg]
    intro e
    rw [small_of_ok hf e] at hs
    cases hs
theorem rdE_cases {s : List UInt8} {ns : List NumS} (hl : s.length = sizeN ns) : rdE s ns = if okR s ns = true then 0 else 2 := by
  rw [rdE, if_neg (by omega)]

/-- a world of ReadSlot: the result's variable, all below as it was -/
structure SltSt (w W : World) : Prop where
  bel : Below w.heap.size w W
  res : SltAt W w.heap.size 0 0 0
theorem SltSt.later {w W W' : World} (h : SltSt w W) (hb : Below W.heap.size W W') : SltSt w W' := ⟨h.bel.trans (hb.mono h.bel.size), (hb.block _ (block_lt h.res)).trans h.res⟩

set_option maxRecDepth 100000 in
set_option maxHeartbeats 3200000 in
theorem refReadSlot_any8 (w : World) (s : List UInt8) (hs : s.length ≤ 1000) :
    Calls Tryz.prog 104 #[.string ⟨s.toArray⟩] w fun e w' => e = .returned (.tuple #[.agg #[.int .i64 (rdV s slotS 0), .int .i64 (rdV s slotS 1), .int .i64 (rdV s slotS 2)], .int .i64 (rdE s slotS)]) ∧ Below w.heap.size w w' := by
  have hS0 : SltSt w (w.alloc (.cells #[.int .i64 0, .int .i64 0, .int .i64 0] 108)) := ⟨(Below.refl _ _).alloc (Nat.le_refl _) _, heap_alloc_new w _⟩
  have hz : (w.alloc (.cells #[.int .i64 0, .int .i64 0, .int .i64 0] 108)).heap.size = w.heap.size + 1 := by simp
  by_cases hl : s.length = 16
  · obtain ⟨c', W1, hcv, hB, hbel⟩ := conv_bytes s (w.alloc (.cells #[.int .i64 0, .int .i64 0, .int .i64 0] 108)) (by omega)
    have hc2 := hB.cap
    have hc3 := hB.most
    rw [hz, hl] at hcv
    rw [hz, hl] at hB
    have hS1 := hS0.later hbel
    have hI : Below W1.heap.size W1 (W1.alloc (.cells #[.int .i64 8, .int .i64 4, .int .i64 4] 3)) := (Below.refl _ _).alloc (Nat.le_refl _) _
    have hS2 := hS1.later hI
    have UN := (refUnpack_any _ 16 c' s _ 3 3 [8, 4, 4] (W1.alloc (.cells #[.int .i64 8, .int .i64 4, .int .i64 4] 3)) (hB.below hI) (ints_new (l := [8, 4, 4]) (heap_alloc_new W1 _) rfl (by omega)) (fun x hx => by
      simp only [List.mem_cons, List.mem_nil_iff, or_false] at hx
      simp only [i64b']
      omega) (by omega) (by omega))
    have hne : ((s.length : Int) != 16) = false := by rw [hl]; rfl
    have hE := rdE_cases (s := s) (ns := slotS) hl
    have hwd : ∀ p ∈ slotS, isW (p.1 : Int) = true := by
      intro p hp
      simp only [slotS, List.mem_cons, List.mem_nil_iff, or_false] at hp
      rcases hp with rfl | rfl | rfl <;> rfl
    rcases rd_unp slotS_fit hwd hl with ⟨u1, u2⟩ | ⟨u1, u2⟩
    · change unpE s 0 [8, 4, 4] = 0 at u1
      change unpN s [8, 4, 4] = psI s slotS at u2
      rw [u1, u2] at UN
      have hV : ∀ k, k < 3 → okR s slotS = true → rdV s slotS k = (psI s slotS).getD k 0 := fun k _ ho => by rw [rdV, if_pos (by rw [hE, if_pos ho])]
      have hVn : okR s slotS = false → ∀ k, rdV s slotS k = 0 := fun ho k => by rw [rdV, if_neg (by rw [hE, ho]; simp)]
      have hok : okR s slotS = okP (slotS.zip (psI s slotS)) := rfl
      obtain ⟨a, b, c, hps⟩ : ∃ a b c : Int, psI s slotS = [a, b, c] := ⟨_, _, _, rfl⟩
      rw [hps] at UN hV hok
      have U : Hid (Calls Tryz.prog 88 #[.slice (some ⟨w.heap.size + 1, 0, none⟩) 16 c', .slice (some ⟨W1.heap.size, 0, none⟩) 3 3] (W1.alloc (.cells #[.int .i64 8, .int .i64 4, .int .i64 4] 3)) fun e w' => ∃ b1 o1 c1, e = .returned (.tuple #[.slice (some ⟨b1, o1, none⟩) 3 c1, .int .i64 0]) ∧ 3 ≤ c1 ∧ c1 ≤ 9223372036854775807 ∧ SltSt w w' ∧ (w'.cell? ⟨b1, o1, none⟩ = some (.int .i64 a) ∧ w'.cell? ⟨b1, o1 + 1, none⟩ = some (.int .i64 b) ∧ w'.cell? ⟨b1, o1 + 2, none⟩ = some (.int .i64 c))) := UN.mono fun e w' h => by
        obtain ⟨A', m, c1, rfl, hI2, hb2⟩ := h
        obtain rfl : 3 = m := hI2.len
        obtain ⟨b1, o1, rfl, _, hc⟩ := hI2.row.lit (by simp [i64s])
        exact ⟨b1, o1, c1, rfl, hI2.cap, hI2.most, hS2.later hb2, hc 0 _ rfl, hc 1 _ rfl, hc 2 _ rfl⟩
      obtain ⟨y, hy⟩ : ∃ y : ByteArray, y = ⟨(slotB a b c).toArray⟩ := ⟨_, rfl⟩
      have RD : Hid (∀ W, Calls Tryz.prog 137 #[.agg #[.int .i64 a, .int .i64 b, .int .i64 c]] W fun e w' => e = .returned (.string y) ∧ Below W.heap.size W w') := fun W => by
        rw [hy]
        exact refSlot_any8 W a b c
      have hl2 : slotB a b c = bldP (slotS.zip [a, b, c]) := rfl
      cases ho : okR s slotS with
      | true =>
        have hye : y.toList.isEmpty = false := by
          rw [hy, hl2, ByteArray.toList_mk, Bool.eq_false_iff, ne_eq, List.isEmpty_iff]
          intro e
          have this : okP (slotS.zip [a, b, c]) = false := (bldP_nil (p := _) (l := _) (show 1 ≤ (8 : Nat) by omega)).1 e
          rw [← hok, ho] at this
          cases this
        have hE0 : rdE s slotS = 0 := by rw [hE, if_pos ho]
        have v0 : rdV s slotS 0 = a := hV 0 (by omega) ho; have v1 : rdV s slotS 1 = b := hV 1 (by omega) ho; have v2 : rdV s slotS 2 = c := hV 2 (by omega) ho
        rw [hE0, v0, v1, v2]
        clear hE0 v0 v1 v2 UN hE hV hVn hok hps hy hl2 u1 u2 ho hB hbel hI hS0 hS1 hS2 hwd hl hs
        go_enter Tryz.func104, Tryz.ntmps104
        go_wp2_with (go_at_call 88; (with_reducible refine (U.out).mono ?_); rintro e w2 ⟨b1, o1, c1, rfl, hc1, hc1m, hS, hN⟩)
        have hN1 : (w2.drew.cell? ⟨b1, o1, none⟩ = some (.int .i64 a) ∧ w2.drew.cell? ⟨b1, o1 + 1, none⟩ = some (.int .i64 b) ∧ w2.drew.cell? ⟨b1, o1 + 2, none⟩ = some (.int .i64 c)) := hN
        have hbA : ∀ ob, Below w2.heap.size w2 (w2.alloc ob) := fun ob => (Below.refl _ _).alloc (Nat.le_refl _) ob
        have hNA : ∀ ob, ((w2.alloc ob).drew.cell? ⟨b1, o1, none⟩ = some (.int .i64 a) ∧ (w2.alloc ob).drew.cell? ⟨b1, o1 + 1, none⟩ = some (.int .i64 b) ∧ (w2.alloc ob).drew.cell? ⟨b1, o1 + 2, none⟩ = some (.int .i64 c)) := fun ob => ⟨((hbA ob).cell (p := ⟨b1, o1, none⟩) (cell_lt hN.1)).trans hN.1, ((hbA ob).cell (p := ⟨b1, o1 + 1, none⟩) (cell_lt hN.2.1)).trans hN.2.1, ((hbA ob).cell (p := ⟨b1, o1 + 2, none⟩) (cell_lt hN.2.2)).trans hN.2.2⟩
        have HNA := Lib.hid hNA
        have HBA := Lib.hid hbA
        clear hNA hbA
        go_region_held3 (fun W => W.cell? ⟨b1, o1, none⟩ = some (.int .i64 a) ∧ W.cell? ⟨b1, o1 + 1, none⟩ = some (.int .i64 b) ∧ W.cell? ⟨b1, o1 + 2, none⟩ = some (.int .i64 c)) (first | exact hN1 | exact HNA.out _) ((fail))
        have hSX := (hS.later (HBA.out (.cells #[.int .i64 a, .int .i64 b, .int .i64 c] 108))).later ((Below.refl _ _).drew)
        have hvar : SltAt (w2.alloc (.cells #[.int .i64 a, .int .i64 b, .int .i64 c] 108)).drew w2.heap.size a b c := heap_alloc_new w2 _
        generalize (w2.alloc (.cells #[.int .i64 a, .int .i64 b, .int .i64 c] 108)).drew = w3 at *
        generalize w2.heap.size = gv at *
        have hvf := hvar.facts
        obtain ⟨t0, t1, t2⟩ := hvf
        clear hN hN1 HNA HBA hS
        go_wp2_with (go_at_call 137; (with_reducible refine (RD.out _).mono ?_); rintro e w4 ⟨rfl, hb4⟩; have hS4 := hSX.later hb4; have hv4 : SltAt w4 gv a b c := (hb4.block _ (block_lt hvar)).trans hvar; obtain ⟨x0, x1, x2⟩ := hv4.facts; obtain ⟨z0, z1, z2⟩ := hS4.res.facts; have y0 := Lib.frozen_of_heap hS4.res 0; have y1 := Lib.frozen_of_heap hS4.res 1; have y2 := Lib.frozen_of_heap hS4.res 2)
        refine bodyPost_ret (results_Slt Tryz.results104 _ _ w.heap.size a b c rfl (hS4.res.store a b c)) rfl ?_
        exact ⟨rfl, below_Slt hS4.bel (Nat.le_refl _) _ _ _⟩
      | false =>
        have hye : y.toList.isEmpty = true := by
          rw [hy, hl2, ByteArray.toList_mk, List.isEmpty_iff]
          refine (bldP_nil (p := _) (l := _) (show 1 ≤ (8 : Nat) by omega)).2 ?_
          rw [← ho]
          exact hok.symm
        have hE0 : rdE s slotS = 2 := by rw [hE, ho]; rfl
        have v0 : rdV s slotS 0 = 0 := hVn ho 0; have v1 : rdV s slotS 1 = 0 := hVn ho 1; have v2 : rdV s slotS 2 = 0 := hVn ho 2
        rw [hE0, v0, v1, v2]
        clear hE0 v0 v1 v2 UN hE hV hVn hok hps hy hl2 u1 u2 ho hB hbel hI hS0 hS1 hS2 hwd hl hs
        go_enter Tryz.func104, Tryz.ntmps104
        go_wp2_with (go_at_call 88; (with_reducible refine (U.out).mono ?_); rintro e w2 ⟨b1, o1, c1, rfl, hc1, hc1m, hS, hN⟩)
        have hN1 : (w2.drew.cell? ⟨b1, o1, none⟩ = some (.int .i64 a) ∧ w2.drew.cell? ⟨b1, o1 + 1, none⟩ = some (.int .i64 b) ∧ w2.drew.cell? ⟨b1, o1 + 2, none⟩ = some (.int .i64 c)) := hN
        have hbA : ∀ ob, Below w2.heap.size w2 (w2.alloc ob) := fun ob => (Below.refl _ _).alloc (Nat.le_refl _) ob
        have hNA : ∀ ob, ((w2.alloc ob).drew.cell? ⟨b1, o1, none⟩ = some (.int .i64 a) ∧ (w2.alloc ob).drew.cell? ⟨b1, o1 + 1, none⟩ = some (.int .i64 b) ∧ (w2.alloc ob).drew.cell? ⟨b1, o1 + 2, none⟩ = some (.int .i64 c)) := fun ob => ⟨((hbA ob).cell (p := ⟨b1, o1, none⟩) (cell_lt hN.1)).trans hN.1, ((hbA ob).cell (p := ⟨b1, o1 + 1, none⟩) (cell_lt hN.2.1)).trans hN.2.1, ((hbA ob).cell (p := ⟨b1, o1 + 2, none⟩) (cell_lt hN.2.2)).trans hN.2.2⟩
        have HNA := Lib.hid hNA
        have HBA := Lib.hid hbA
        clear hNA hbA
        go_region_held3 (fun W => W.cell? ⟨b1, o1, none⟩ = some (.int .i64 a) ∧ W.cell? ⟨b1, o1 + 1, none⟩ = some (.int .i64 b) ∧ W.cell? ⟨b1, o1 + 2, none⟩ = some (.int .i64 c)) (first | exact hN1 | exact HNA.out _) ((fail))
        have hSX := (hS.later (HBA.out (.cells #[.int .i64 a, .int .i64 b, .int .i64 c] 108))).later ((Below.refl _ _).drew)
        have hvar : SltAt (w2.alloc (.cells #[.int .i64 a, .int .i64 b, .int .i64 c] 108)).drew w2.heap.size a b c := heap_alloc_new w2 _
        generalize (w2.alloc (.cells #[.int .i64 a, .int .i64 b, .int .i64 c] 108)).drew = w3 at *
        generalize w2.heap.size = gv at *
        have hvf := hvar.facts
        obtain ⟨t0, t1, t2⟩ := hvf
        clear hN hN1 HNA HBA hS
        go_wp2_with (go_at_call 137; (with_reducible refine (RD.out _).mono ?_); rintro e w4 ⟨rfl, hb4⟩; have hS4 := hSX.later hb4; obtain ⟨z0, z1, z2⟩ := hS4.res.facts; have y0 := Lib.frozen_of_heap hS4.res 0; have y1 := Lib.frozen_of_heap hS4.res 1; have y2 := Lib.frozen_of_heap hS4.res 2)
        refine bodyPost_ret (results_Slt Tryz.results104 _ _ w.heap.size 0 0 0 rfl (hS4.res.store 0 0 0)) rfl ?_
        exact ⟨rfl, below_Slt hS4.bel (Nat.le_refl _) _ _ _⟩
    · change unpE s 0 [8, 4, 4] = 2 at u1
      rw [u1] at UN
      have U : Hid (Calls Tryz.prog 88 #[.slice (some ⟨w.heap.size + 1, 0, none⟩) 16 c', .slice (some ⟨W1.heap.size, 0, none⟩) 3 3] (W1.alloc (.cells #[.int .i64 8, .int .i64 4, .int .i64 4] 3)) fun e w' => ∃ A' m c1, e = .returned (.tuple #[.slice A' m c1, .int .i64 2]) ∧ SltSt w w') := UN.mono fun e w' h => by
        obtain ⟨A', m, c1, rfl, hI2, hb2⟩ := h
        exact ⟨A', m, c1, rfl, hS2.later hb2⟩
      have hV : ∀ k, rdV s slotS k = 0 := fun k => by rw [rdV, if_neg (by rw [u2]; omega)]
      rw [u2, hV 0, hV 1, hV 2]
      clear UN hE hV u1 u2 hB hbel hI hS0 hS1 hS2 hwd hl hs
      go_enter Tryz.func104, Tryz.ntmps104
      go_wp2_with (go_at_call 88; (with_reducible refine (U.out).mono ?_); rintro e w2 ⟨A1, m1, c1, rfl, hS⟩; obtain ⟨z0, z1, z2⟩ := hS.res.facts; have y0 := Lib.frozen_of_heap hS.res 0; have y1 := Lib.frozen_of_heap hS.res 1; have y2 := Lib.frozen_of_heap hS.res 2)
      refine bodyPost_ret (results_Slt Tryz.results104 _ _ w.heap.size 0 0 0 rfl (hS.res.store 0 0 0)) rfl ?_
      exact ⟨rfl, below_Slt hS.bel (Nat.le_refl _) _ _ _⟩
  · obtain ⟨e1, e2⟩ := rd_len (s := s) (ns := slotS) (by simpa [sizeN, slotS] using hl)
    rw [e1, e2 0, e2 1, e2 2]
    have hne : ((s.length : Int) != 16) = true := by rw [bne_iff_ne]; omega
    have HS0 := Lib.hid hS0
    clear e1 e2 hl hs hS0
    go_enter Tryz.func104, Tryz.ntmps104
    go_wp2
    refine bodyPost_ret (results_Slt Tryz.results104 _ _ w.heap.size 0 0 0 rfl HS0.out.res) rfl ?_
    exact ⟨rfl, HS0.out.bel⟩

end Go.Proofs.YtbeobbanppkmhaaGreatDoor
