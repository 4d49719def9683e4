/-
  Joined: SupA, CodeA, CrcA, FltA, FltB, CrcB, CrcC, CrcE, CrcD.
-/
import Derived.LoopTactic
import Derived.Test.YtfcehhhcjlpklaaGreatDoorChecked
import Derived.Test.YtfcehhhcjlpklaaGreatDoorJWlkA03
import Derived.Test.YtfcehhhcjlpklaaGreatDoorRows
import Derived.WalkKit
import Derived.WalkSpells
import Derived.Lib.Hide
import Derived.WalkLawsBesides
import Derived.Laws.BitsAllLaws
import Derived.Test.YtfcehhhcjlpklaaGreatDoorJWlkA01
import Derived.LaidEql
import Derived.Stop.Asserts
import Derived.MapKept
import Derived.Carry
import Derived.Deep.DeepMust
import Derived.Outline
import Derived.Tactics2
import Derived.Defers
import Derived.Recover
import Derived.Laws.Pointers
import Derived.OwnWalk
import Derived.Lib.SlBytesConst
/-
  Layer 6's visit: what an action does to each field in turn, whatever the action is.
-/
namespace Go.Proofs.YtfcehhhcjlpklaaGreatDoor
open Go.RowKit
set_option linter.unusedVariables false
set_option linter.unusedSimpArgs false

/-- every row of pointers stands as it stood -/
def Ptrs (w w' : World) : Prop := ∀ (g : Nat) (cs : Array Value) (fr : Nat × Nat), w.heap[g]? = some (Obj.cells cs 176 fr) → w'.heap[g]? = some (Obj.cells cs 176 fr)
theorem Ptrs.refl (w : World) : Ptrs w w := fun _ _ _ h => h
theorem Ptrs.trans {a b c : World} (h : Ptrs a b) (k : Ptrs b c) : Ptrs a c := fun g cs fr e => k g cs fr (h g cs fr e)
theorem Ptrs.of_below {w w' : World} (hb : Below w.heap.size w w') : Ptrs w w' := fun g cs fr e => (hb.block g (block_lt e)).trans e

end Go.Proofs.YtfcehhhcjlpklaaGreatDoor

/-
  The small helpers of layer 1 and of its reference: widths, room, fits.
-/
namespace Go.Proofs.YtfcehhhcjlpklaaGreatDoor
open Go.RowKit
set_option linter.unusedVariables false
set_option linter.unusedSimpArgs false

def isW (x : Int) : Bool := x == 1 || x == 2 || x == 4 || x == 8

theorem isW_cases {x : Int} (h : isW x = true) : x = 1 ∨ x = 2 ∨ x = 4 ∨ x = 8 := by
  simp only [isW, Bool.or_eq_true, beq_iff_eq] at h
  omega

set_option maxRecDepth 100000 in
theorem isWidth_any (x : Int) (w : World) (r : Bool) (hr : isW x = r) :
    Calls Tryz.prog 58 #[.int .i64 x] w fun e w' => e = .returned (.bool r) ∧ w = w' := by
  subst hr
  go_enter Tryz.func58, Tryz.ntmps58
  go_wp2
  all_goals go_ret
  all_goals first | exact ⟨rfl, rfl⟩ | (refine ⟨?_, rfl⟩; simp [isW, *])

set_option maxRecDepth 100000 in
theorem width_any (x : Int) (w : World) (r : Bool) (hr : isW x = r) :
    Calls Tryz.prog 128 #[.int .i64 x] w fun e w' => e = .returned (.bool r) ∧ w = w' := by
  subst hr
  go_enter Tryz.func128, Tryz.ntmps128
  go_wp2
  all_goals go_ret
  all_goals first | exact ⟨rfl, rfl⟩ | (refine ⟨?_, rfl⟩; simp [isW, *])


/-- the error of a place: ErrArg, ErrEnd, OK -/
def roomE (n : Nat) (i wd : Int) : Int := if isW wd = false then 1 else if i < 0 ∨ (n : Int) - wd < i then 3 else 0

set_option maxRecDepth 100000 in
theorem place_any (A : Option Addr) (n c : Nat) (i wd : Int) (w : World) (hn : n ≤ 9223372036854775807) (hi : -9223372036854775808 ≤ i ∧ i ≤ 9223372036854775807) (r : Int) (hr : roomE n i wd = r) :
    Calls Tryz.prog 86 #[.slice A n c, .int .i64 i, .int .i64 wd] w fun e w' => e = .returned (.int .i64 r) ∧ w = w' := by
  obtain ⟨hi1, hi2⟩ := hi
  cases hw : isW wd with
  | false =>
    obtain rfl : 1 = r := by rw [← hr]; simp [roomE, hw]
    have Hw := Lib.hid hw
    clear hw hr
    go_enter Tryz.func86, Tryz.ntmps86
    go_wp2_with (go_at_call 58; refine (isWidth_any _ _ _ Hw.out).mono ?_; rintro e w' ⟨rfl, rfl⟩)
    go_ret
    exact ⟨rfl, rfl⟩
  | true =>
    have hb : 1 ≤ wd ∧ wd ≤ 8 := by rcases isW_cases hw with h | h | h | h <;> omega
    obtain ⟨hb1, hb2⟩ := hb
    have Hw := Lib.hid hw
    have Hr : Hid ((if i < 0 ∨ (n : Int) - wd < i then 3 else 0) = r) := by rw [← hr]; simp [roomE, hw, Hid]
    clear hw hr
    go_enter Tryz.func86, Tryz.ntmps86
    go_wp2_with (go_at_call 58; refine (isWidth_any _ _ _ Hw.out).mono ?_; rintro e w' ⟨rfl, rfl⟩)
    all_goals go_ret
    all_goals exact ⟨ret_int (by rw [← Hr.out]; split <;> omega), rfl⟩

set_option maxRecDepth 100000 in
theorem room_any (A : Option Addr) (n c : Nat) (i wd : Int) (w : World) (hn : n ≤ 9223372036854775807) (hi : -9223372036854775808 ≤ i ∧ i ≤ 9223372036854775807) (r : Int) (hr : roomE n i wd = r) :
    Calls Tryz.prog 107 #[.slice A n c, .int .i64 i, .int .i64 wd] w fun e w' => e = .returned (.int .i64 r) ∧ w = w' := by
  obtain ⟨hi1, hi2⟩ := hi
  cases hw : isW wd with
  | false =>
    obtain rfl : 1 = r := by rw [← hr]; simp [roomE, hw]
    have Hw := Lib.hid hw
    clear hw hr
    go_enter Tryz.func107, Tryz.ntmps107
    go_wp2_with (go_at_call 128; refine (width_any _ _ _ Hw.out).mono ?_; rintro e w' ⟨rfl, rfl⟩)
    go_ret
    exact ⟨rfl, rfl⟩
  | true =>
    have hb : 1 ≤ wd ∧ wd ≤ 8 := by rcases isW_cases hw with h | h | h | h <;> omega
    obtain ⟨hb1, hb2⟩ := hb
    have Hw := Lib.hid hw
    have Hr : Hid ((if i < 0 ∨ (n : Int) - wd < i then 3 else 0) = r) := by rw [← hr]; simp [roomE, hw, Hid]
    clear hw hr
    go_enter Tryz.func107, Tryz.ntmps107
    go_wp2_with (go_at_call 128; refine (width_any _ _ _ Hw.out).mono ?_; rintro e w' ⟨rfl, rfl⟩)
    all_goals go_ret
    all_goals exact ⟨ret_int (by rw [← Hr.out]; split <;> omega), rfl⟩

/-- does a number fit in a width -/
def fitsB (n wd : Int) : Bool := decide (0 ≤ n) && (wd == 8 || decide (n < 256 ^ wd.toNat))

set_option maxRecDepth 100000 in
theorem fits_any (n wd : Int) (w : World) (hw : isW wd = true) (hn : -9223372036854775808 ≤ n ∧ n ≤ 9223372036854775807) (r : Bool) (hr : fitsB n wd = r) :
    Calls Tryz.prog 59 #[.int .i64 n, .int .i64 wd] w fun e w' => e = .returned (.bool r) ∧ w = w' := by
  obtain ⟨hn1, hn2⟩ := hn
  have Hr := Lib.hid hr
  clear hr
  by_cases h0 : 0 ≤ n
  · rcases isW_cases hw with rfl | rfl | rfl | rfl
    all_goals clear hw
    all_goals go_enter Tryz.func59, Tryz.ntmps59
    all_goals go_wp2
    all_goals go_ret
    all_goals exact ⟨ret_bool (by rw [← Hr.out, Bool.eq_iff_iff]; simp [fitsB, h0]; try omega), rfl⟩
  · have hneg : n < 0 := by omega
    go_enter Tryz.func59, Tryz.ntmps59
    go_wp2
    go_ret
    exact ⟨ret_bool (by rw [← Hr.out]; simp [fitsB]; omega), rfl⟩

end Go.Proofs.YtfcehhhcjlpklaaGreatDoor

/-
  Layer 2's step, and the reference's eight steps.
-/
namespace Go.Proofs.YtfcehhhcjlpklaaGreatDoor
open Go.RowKit
set_option linter.unusedVariables false
set_option linter.unusedSimpArgs false


theorem and_one_u32 (n : Nat) (h : n < 4294967296) : bits .and .u32 (n : Int) 1 = ((n % 2 : Nat) : Int) := by
  have := u32_and_nat n 1 h (by omega)
  rw [Nat.and_one_is_mod] at this
  exact this

theorem step_odd (n : Nat) (h : n < 4294967296) (ho : n % 2 = 1) : bits .xor .u32 ((n : Int) / 2) 2197175160 = (Crc.step n : Int) := by
  have := u32_xor_nat (n / 2) 2197175160 (by omega) (by omega)
  rw [show ((n / 2 : Nat) : Int) = (n : Int) / 2 by omega] at this
  rw [show Crc.step n = n / 2 ^^^ 2197175160 by simp [Crc.step, Crc.poly, ho]]
  exact this

theorem step_even (n : Nat) (ho : n % 2 = 0) : (n : Int) / 2 = (Crc.step n : Int) := by
  simp [Crc.step, ho]

theorem i64_xor_nat (a b : Nat) (ha : a < 9223372036854775808) (hb : b < 9223372036854775808) : bits .xor .i64 (a : Int) (b : Int) = ((a ^^^ b : Nat) : Int) := by
  have hx : a ^^^ b < 2 ^ 63 := Nat.xor_lt_two_pow (by omega) (by omega)
  show IntKind.i64.wrap ((BitVec.ofInt 64 (a : Int) ^^^ BitVec.ofInt 64 (b : Int)).toNat : Int) = _
  rw [BitVec.toNat_xor, ofInt_u64 a (by omega), ofInt_u64 b (by omega), IntKind.wrap_i64]
  omega

theorem step_odd64 (n : Nat) (h : n < 4294967296) (ho : n % 2 = 1) : bits .xor .i64 ((n : Int) / 2) 2197175160 = (Crc.step n : Int) := by
  have := i64_xor_nat (n / 2) 2197175160 (by omega) (by omega)
  rw [show ((n / 2 : Nat) : Int) = (n : Int) / 2 by omega] at this
  rw [show Crc.step n = n / 2 ^^^ 2197175160 by simp [Crc.step, Crc.poly, ho]]
  exact this

set_option maxRecDepth 100000 in
set_option maxHeartbeats 400000 in
theorem step_any (n : Nat) (h : n < 4294967296) (w : World) :
    Calls Tryz.prog 129 #[.int .u32 (n : Int)] w fun e w' => e = .returned (.int .u32 (Crc.step n : Int)) ∧ w = w' := by
  have ea := and_one_u32 n h
  rcases Nat.mod_two_eq_zero_or_one n with ho | ho
  · have Hs := Lib.hid (step_even n ho)
    rw [ho] at ea
    clear ho
    go_enter Tryz.func129, Tryz.ntmps129
    go_wp2
    go_ret
    exact ⟨ret_int Hs.out, rfl⟩
  · have Hs := Lib.hid (step_odd n h ho)
    rw [ho] at ea
    clear ho
    go_enter Tryz.func129, Tryz.ntmps129
    go_wp2
    go_ret
    exact ⟨ret_int Hs.out, rfl⟩

set_option maxRecDepth 100000 in
set_option maxHeartbeats 400000 in
theorem refStep_any (n : Nat) (h : n < 4294967296) (w : World) :
    Calls Tryz.prog 142 #[.int .i64 (n : Int)] w fun e w' => e = .returned (.int .i64 (Crc.it 8 n : Int)) ∧ w = w' := by
  go_enter Tryz.func142, Tryz.ntmps142
  go_wp2
  go_loop [0, 3] (fun r i => ∃ k m : Nat, k ≤ 8 ∧ i = .int .i64 k ∧ r = .int .i64 m ∧ m < 4294967296 ∧ Hid (m = Crc.it k n)) (fun _ i => 8 - (intOf i).toNat)
  case atStart => exact ⟨0, n, by omega, rfl, rfl, h, rfl⟩
  case round =>
    obtain ⟨k, m, hk, rfl, rfl, hm, HM⟩ := hrel
    by_cases hlt : k < 8
    · have HS : Hid (Crc.step m = Crc.it (k + 1) n) := by rw [Crc.it_succ, ← HM.out]; rfl
      have hl := Crc.step_lt hm
      rcases Nat.mod_two_eq_zero_or_one m with ho | ho
      · have Hs := Lib.hid (step_even m ho)
        have hz : (m : Int) % 2 = 0 := by omega
        go_wp2
        go_round
        case rel => exact ⟨k + 1, Crc.step m, by omega, by go_num, by rw [← Hs.out], hl, HS⟩
        case measure => simp [intOf]; omega
      · have Hs := Lib.hid (step_odd64 m hm ho)
        have hz : (m : Int) % 2 = 1 := by omega
        go_wp2
        go_round
        case rel => exact ⟨k + 1, Crc.step m, by omega, by go_num, by rw [← Hs.out], hl, HS⟩
        case measure => simp [intOf]; omega
    · obtain rfl : k = 8 := by omega
      go_wp2
      go_ret
      exact ⟨ret_int (by rw [HM.out]), rfl⟩

end Go.Proofs.YtfcehhhcjlpklaaGreatDoor

/-
  Layer 5's errors as values: chains of faults, others and numbers; an error as a key of a map.
-/
namespace Go.Proofs.YtfcehhhcjlpklaaGreatDoor
open Go.RowKit
set_option linter.unusedVariables false
set_option linter.unusedSimpArgs false

/-- one link of an error, from the outermost one on: a Fault with its block's number, in block p of memory; an error of another kind; a number -/
inductive Node where
  | flt (b : Int) (p : Nat)
  | num (n : Int)

/-- the error that the links make -/
def val : List Node → Value
  | [] => .nilIface
  | .flt _ p :: _ => .iface 111 (.pointer (some ⟨p, 0, none⟩))
  | .num n :: l => (fun _ => .iface 50 (.int .i64 n)) (val l)

/-- the Faults of l lie below block p -/
def Lower (p : Nat) (l : List Node) : Prop := ∀ b q, Node.flt b q ∈ l → q < p
/-- none of l is of another kind -/
def Plain (l : List Node) : Prop := True

/-- memory holds these links -/
def Good (w : World) : List Node → Prop
  | [] => True
  | .flt b p :: l => w.heap[p]? = some (.cells #[.int .i64 b, val l] 114 (0, 0)) ∧ Lower p l ∧ l ≠ [] ∧ Good w l
  | .num _ :: l => l = []

theorem Good.below {w w' : World} (hb : Below w.heap.size w w') : ∀ {l : List Node}, Good w l → Good w' l
  | [], _ => trivial
  | .flt _ p :: l, ⟨h1, h2, h3, h4⟩ => ⟨(hb.block p (block_lt h1)).trans h1, h2, h3, Good.below hb h4⟩
  | .num _ :: l, h => h

/-- every Fault stands as it stood -/
def Keeps (w w' : World) : Prop := ∀ (p : Nat) (c : Array Value), w.heap[p]? = some (Obj.cells c 114 (0, 0)) → w'.heap[p]? = some (Obj.cells c 114 (0, 0))
theorem Keeps.trans {a b c : World} (h : Keeps a b) (k : Keeps b c) : Keeps a c := fun p x e => k p x (h p x e)
theorem Keeps.of_below {w w' : World} (hb : Below w.heap.size w w') : Keeps w w' := fun p x e => (hb.block p (block_lt e)).trans e
/-- all but one block, which is no Fault -/
theorem Keeps.of_grown {w w' : World} {g : Nat} (h : w.grownBy w' (some g)) (hg : ∀ c, w.heap[g]? ≠ some (Obj.cells c 114 (0, 0))) : Keeps w w' := fun p x e => by
  by_cases hp : p = g
  · subst hp; exact absurd e (hg x)
  · exact (h.block p (block_lt e) (fun h2 => hp (by injection h2))).trans e

theorem Good.same {w w' : World} (hb : Keeps w w') : ∀ {l : List Node}, Good w l → Good w' l
  | [], _ => trivial
  | .flt _ p :: l, ⟨h1, h2, h3, h4⟩ => ⟨hb _ _ h1, h2, h3, Good.same hb h4⟩
  | .num _ :: l, h => h

theorem Good.tail {w : World} {x : Node} {l : List Node} (h : Good w (x :: l)) : Good w l := by
  cases x with
  | flt b p => exact h.2.2.2
  | num n => have : l = [] := h; subst this; trivial

/-- a key of a map that is none of the errors of l -/
def Past (w : World) (l : List Node) (v : Value) : Prop :=
  (∃ p c, v = .iface 111 (.pointer (some ⟨p, 0, none⟩)) ∧ w.heap[p]? = some (.cells c 114 (0, 0)) ∧ Lower p l) ∨ (∃ a, v = .iface 41 a ∧ Plain l)

theorem Past.tail {w : World} {x : Node} {l : List Node} {v : Value} (h : Past w (x :: l) v) : Past w l v := by
  rcases h with ⟨p, c, rfl, h1, h2⟩ | ⟨a, rfl, h1⟩
  · exact .inl ⟨p, c, rfl, h1, fun b q hq => h2 b q (List.mem_cons_of_mem _ hq)⟩
  · exact .inr ⟨a, rfl, trivial⟩
theorem Past.same {w w' : World} {l : List Node} {v : Value} (hb : Keeps w w') (h : Past w l v) : Past w' l v := by
  rcases h with ⟨p, c, rfl, h1, h2⟩ | h
  · exact .inl ⟨p, c, rfl, hb _ _ h1, h2⟩
  · exact .inr h
/-- an error's own key, to what it wraps -/
theorem Past.own {w : World} {x : Node} {l : List Node} (h : Good w (x :: l)) (hl : l ≠ []) : Past w l (val (x :: l)) := by
  cases x with
  | flt b p => exact .inl ⟨p, _, rfl, h.1, h.2.1⟩
  | num n => exact absurd h hl

theorem comp_flt : (Tryz.prog.info? 111).map (fun i => i.comparable) = some true := by kernel_rfl
theorem size_flt : (Tryz.prog.info? 114).map (fun i => i.size) = some 2 := by kernel_rfl
theorem comp_num : (Tryz.prog.info? 50).map (fun i => i.comparable) = some true := by kernel_rfl

theorem run_key_plain (w : World) (em : Bool) (l : List Node) (hp : Plain l) (n : Nat) : (Instr.checkKey em (n + 2) 41 (val l)).run Tryz.prog w = .ok () w := by
  obtain ⟨i1, hi1, hc1⟩ := Option.map_eq_some_iff.1 comp_flt
  obtain ⟨i2, hi2, hc2⟩ := Option.map_eq_some_iff.1 comp_num
  match l, hp with
  | [], _ => simp [val, Instr.checkKey, run_underlying Tryz.underlying41]
  | .flt b p :: l, _ => simp [val, Instr.checkKey, run_underlying Tryz.underlying41, run_underlying Tryz.underlying111, typeInfo, hi1, hc1]
  | .num m :: l, _ => simp [val, Instr.checkKey, run_underlying Tryz.underlying41, run_underlying Tryz.underlying50, typeInfo, hi2, hc2]

theorem run_key (w : World) (em : Bool) {l : List Node} (hg : Good w l) (n : Nat) : (Instr.checkKey em (n + 5) 41 (val l)).run Tryz.prog w = .ok () w := by
  match l, hg with
  | [], _ => exact run_key_plain w em [] (by simp [Plain]) (n + 3)
  | .flt b p :: l, _ => 
    obtain ⟨i1, hi1, hc1⟩ := Option.map_eq_some_iff.1 comp_flt
    simp [val, Instr.checkKey, run_underlying Tryz.underlying41, run_underlying Tryz.underlying111, typeInfo, hi1, hc1]
  | .num m :: l, _ =>
    obtain ⟨i2, hi2, hc2⟩ := Option.map_eq_some_iff.1 comp_num
    simp [val, Instr.checkKey, run_underlying Tryz.underlying41, run_underlying Tryz.underlying50, typeInfo, hi2, hc2]

theorem run_types (d : Nat) {tx ty : TypeId} (hne : tx ≠ ty) (vx vy : Value) (w : World) : (Op.equalIn (d + 1) 41 (.iface tx vx) (.iface ty vy)).run Tryz.prog w = .ok false w := by
  simp [Op.equalIn, run_underlying Tryz.underlying41, hne]

theorem run_apart (w : World) {l : List Node} (hg : Good w l) (hne : l ≠ []) {v : Value} (hp : Past w l v) : (Op.equal 41 (val l) v).run Tryz.prog w = .ok false w := by
  have key : ∀ d : Nat, (Op.equalIn (d + 2) 41 (val l) v).run Tryz.prog w = .ok false w := fun d => by
    match l, hg with
    | [], _ => exact absurd rfl hne
    | .flt b p :: l, hg =>
      rcases hp with ⟨q, c, rfl, h1, h2⟩ | ⟨a, rfl, h1⟩
      · obtain ⟨i1, hi1, hc1⟩ := Option.map_eq_some_iff.1 comp_flt
        have hq := h2 b p (List.mem_cons_self)
        have hn : (⟨p, 0, none⟩ : Addr) ≠ ⟨q, 0, none⟩ := fun e => by injection e with e1; omega
        obtain ⟨j, hj, hs⟩ := Option.map_eq_some_iff.1 size_flt
        exact run_equalIn_iface_ptr_other w d Tryz.underlying41 Tryz.underlying111 hi1 hc1 hj (by rw [hs]; decide) hn hg.1 h1
      · exact run_types (d + 1) (by decide) _ _ w
    | .num m :: l, _ =>
      rcases hp with ⟨q, c, rfl, h1, h2⟩ | ⟨a, rfl, h1⟩
      · exact run_types (d + 1) (by decide) _ _ w
      · exact run_types (d + 1) (by decide) _ _ w
  exact key 9998

theorem run_none (w : World) {l : List Node} (hg : Good w l) (hne : l ≠ []) : ∀ (es : List MapEntry) (i : Nat), (∀ e ∈ es, Past w l e.key) → (Instr.findAsking 41 (val l) es i).run Tryz.prog w = .ok none w
  | [], i, _ => by simp [Instr.findAsking]
  | e :: es, i, h => by
    simp [Instr.findAsking, run_apart w hg hne (h e (List.mem_cons_self)), run_none w hg hne es (i + 1) (fun x hx => h x (List.mem_cons_of_mem _ hx)), Result.andThen]

theorem run_findKey_none (w : World) {l : List Node} (hg : Good w l) (hne : l ≠ []) (es : List MapEntry) (h : ∀ e ∈ es, Past w l e.key) : (Instr.findKey 41 (val l) es).run Tryz.prog w = .ok none w := by
  have hf : ∃ d, Tryz.prog.underlying 41 = some d ∧ (Instr.findNow d (val l) es 0 = some none ∨ Instr.findNow d (val l) es 0 = none) := by
    refine ⟨_, Tryz.underlying41, ?_⟩
    cases es with
    | nil => exact .inl rfl
    | cons e es => exact .inr (by simp [Instr.findNow, Instr.sameNow])
  obtain ⟨d, hd, hf⟩ := hf
  rcases hf with hf | hf
  · simp [Instr.findKey, run_underlying hd, hf, Result.andThen]
  · simp [Instr.findKey, run_underlying hd, hf, Result.andThen, run_none w hg hne es 0 h]

/-- how much a map holds -/
def count (w : World) (m : Nat) : Nat := match w.heap[m]? with
  | some (.map es _) => es.size
  | _ => 0
theorem count_of {w : World} {m c : Nat} {es : Array MapEntry} (h : w.heap[m]? = some (.map es c)) : count w m = es.size := by
  unfold count; rw [h]
theorem count_same {w w' : World} {m : Nat} (h : w'.heap[m]? = w.heap[m]?) : count w' m = count w m := by
  unfold count; rw [h]

/-- the map of what has been visited: at block m -/
structure Seen (w : World) (m : Nat) (l : List Node) : Prop where
  ex : ∃ es c, w.heap[m]? = some (.map es c) ∧ (l ≠ [] → ∀ e ∈ es.toList, Past w l e.key)

theorem Seen.first (w : World) (l : List Node) : Seen (w.alloc (.map #[] 0)) w.heap.size l := ⟨#[], 0, (MapKept.heap_alloc w _).1, fun _ e he => by simp at he⟩
theorem Seen.same {w w' : World} {m : Nat} {l : List Node} (h : Seen w m l) (hm : w'.heap[m]? = w.heap[m]?) (hk : Keeps w w') : Seen w' m l := by
  obtain ⟨es, c, hb, hp⟩ := h.ex
  exact ⟨es, c, hm.trans hb, fun hl e he => (hp hl e he).same hk⟩
theorem Seen.later {w w' : World} {m : Nat} {l : List Node} (h : Seen w m l) (hb : Below w.heap.size w w') : Seen w' m l := by
  obtain ⟨es, c, hm, hp⟩ := h.ex
  exact h.same (hb.block m (block_lt hm)) (.of_below hb)

theorem zero_bool (w : World) : (zeroValue 4).run Tryz.prog w = .ok (.bool false) w := by kernel_rfl

theorem run_seen {w : World} {m : Nat} {l : List Node} {es : Array MapEntry} {c : Nat} (hb : w.heap[m]? = some (.map es c)) (hp : ∀ e ∈ es.toList, Past w l e.key) (hg : Good w l) (hne : l ≠ []) :
    (Instr.lookup 109 (.map (some m)) (val l) false).run Tryz.prog w = .ok (.bool false) w := by
  have hk := run_key w es.isEmpty hg 9995
  have hf := run_findKey_none w hg hne es.toList hp
  simp only [Instr.lookup, Sem.run_bind, run_underlying Tryz.underlying109, Result.andThen, MapKept.run_getObj_map hb]
  simp [hk, hf, Result.andThen, zero_bool]

theorem run_enter {w : World} {m : Nat} {l : List Node} {es : Array MapEntry} {c : Nat} (hb : w.heap[m]? = some (.map es c)) (hp : ∀ e ∈ es.toList, Past w l e.key) (hg : Good w l) (hne : l ≠ []) :
    (Instr.mapUpdate 109 (.map (some m)) (val l) (.bool true)).run Tryz.prog w = .ok () { w with heap := w.heap.setIfInBounds m (.map (es.push { key := val l, val := .bool true, born := c }) (c + 1)) } := by
  have hk := run_key w false hg 9995
  have hf := run_findKey_none w hg hne es.toList hp
  simp only [Instr.mapUpdate, Sem.run_bind, run_underlying Tryz.underlying109, Result.andThen, MapKept.run_getObj_map hb]
  simp [hk, hf, Result.andThen, MapKept.run_setObj_map _ hb]
end Go.Proofs.YtfcehhhcjlpklaaGreatDoor

/-
  fault.enter: an error is visited for the first time.
-/
namespace Go.Proofs.YtfcehhhcjlpklaaGreatDoor
open Go.RowKit
set_option linter.unusedVariables false
set_option linter.unusedSimpArgs false

/-- the deferred closure of enter, where nothing has gone wrong -/
theorem idle_enter (p : Addr) (w : World) :
    CallsD Tryz.prog 79 #[.pointer (some p)] .returning w fun e u' w' => e = .returned (.tuple #[]) ∧ u' = .returning ∧ w' = w := by
  refine callsD_of_wpS Tryz.func79 rfl fun c₀ cs hu => ?_
  apply wpS_seq
  apply wpS_region
  simp [wpOpsS, go_sem, recoverD, hu, Tryz.ntmps79, Exit.thenS]
  refine wpS_cond (t := false) (by simp [Act.eval, Array.replicate]) ?_
  simp only [Bool.false_eq_true, if_false]
  refine wpS_of_wp (wp_skip ?_)
  cases c₀
  simp_all [bodyPostS, results, Tryz.results79]

/-- all but block m stands as it stood; there may be more -/
structure KeptMap (m : Nat) (w w' : World) : Prop where
  os : w'.os = w.os
  tape : w'.tape = w.tape
  output : w'.output = w.output
  size : w.heap.size ≤ w'.heap.size
  block : ∀ k, k < w.heap.size → k ≠ m → w'.heap[k]? = w.heap[k]?

theorem KeptMap.grown {m : Nat} {w w' : World} (h : KeptMap m w w') : w.grownBy w' (some m) := ⟨h.os, h.tape, h.output, h.size, fun k hk hm => h.block k hk (fun e => hm (by rw [e]))⟩
theorem KeptMap.keeps {m : Nat} {w w' : World} {l : List Node} (h : KeptMap m w w') (hs : Seen w m l) : Keeps w w' := by
  obtain ⟨es, k, hb, _⟩ := hs.ex
  exact .of_grown h.grown (fun c e => by rw [hb] at e; cases e)
theorem KeptMap.below {m B : Nat} {w w' : World} (h : KeptMap m w w') (hB : B ≤ m) (hm : B ≤ w.heap.size) : Below B w w' := ⟨h.os, h.tape, h.output, h.size, fun k hk => h.block k (by omega) (by omega)⟩

theorem KeptMap.setCell {m : Nat} {w w' : World} (h : KeptMap m w w') {p : Addr} (hp : w.heap.size ≤ p.block) (v : Value) : KeptMap m w (w'.setCell p v) :=
  ⟨h.os, h.tape, h.output, by simpa [World.setCell] using h.size, fun k hk hm => by rw [Below.heap_setCell _ _ _ _ (by omega)]; exact h.block k hk hm⟩

set_option maxRecDepth 100000 in
theorem enter_new {w : World} {m : Nat} {x : Node} {l : List Node} (hs : Seen w m (x :: l)) (hg : Good w (x :: l)) :
    Calls Tryz.prog 49 #[.map (some m), val (x :: l)] w fun e w' => e = .returned (.bool true) ∧ KeptMap m w w' ∧ Seen w' m l ∧ count w' m = count w m + 1 := by
  obtain ⟨es, c, hb, hp⟩ := hs.ex
  have hp := hp (by simp)
  have hmf : ∀ (fn : Fn) (first cap : Array Value) (w : World), (Instr.makeFunc fn first cap).run Tryz.prog w = .ok (.func fn first cap) w := fun _ _ _ _ => rfl
  have hlt := block_lt hb
  have b0 : ∀ o, Below w.heap.size w (w.alloc o) := fun o => (Below.refl w.heap.size w).alloc (Nat.le_refl _) o
  have m0 : ∀ o, (w.alloc o).heap[m]? = some (.map es c) := fun o => ((b0 o).block m hlt).trans hb
  have L := run_seen (m0 (.cells #[.bool false] 4)) (fun e he => (hp e he).same (.of_below (b0 _))) (hg.below (b0 _)) (by simp)
  obtain ⟨w2, U, hc, hf, hk, hS⟩ : ∃ w2, (Instr.mapUpdate 109 (.map (some m)) (val (x :: l)) (.bool true)).run Tryz.prog (w.alloc (.cells #[.bool true] 4)) = .ok () w2 ∧ w2.cell? ⟨w.heap.size, 0, none⟩ = some (.bool true) ∧ w2.frozen? ⟨w.heap.size, 0, none⟩ = false ∧ KeptMap m w w2 ∧ (∀ w3, Keeps w w3 → w3.heap[m]? = w2.heap[m]? → Seen w3 m l ∧ count w3 m = count w m + 1) := by
    have U := run_enter (m0 (.cells #[.bool true] 4)) (fun e he => (hp e he).same (.of_below (b0 _))) (hg.below (b0 _)) (by simp)
    have hset := MapKept.heap_set (o' := .map (es.push { key := val (x :: l), val := .bool true, born := c }) (c + 1)) (m0 (.cells #[.bool true] 4))
    have hnew : (w.alloc (.cells #[.bool true] 4)).heap[w.heap.size]? = some (.cells #[.bool true] 4) := (MapKept.heap_alloc w _).1
    have h3 := (hset.2 w.heap.size (by omega)).trans hnew
    refine ⟨_, U, ?_, ?_, ⟨rfl, rfl, rfl, ?_, ?_⟩, ?_⟩
    · exact (World.cell?_of_block (w := w.alloc (.cells #[.bool true] 4)) (hset.2 w.heap.size (by omega))).trans (by rw [cell_of_row _ w.heap.size 0 _ _ _ hnew]; rfl)
    · exact Lib.frozen_of_heap h3 0
    · exact Nat.le_trans (b0 (.cells #[.bool true] 4)).size (Nat.le_of_eq (Array.size_setIfInBounds ..).symm)
    · intro k hk hm
      exact (hset.2 k hm).trans ((b0 _).block k hk)
    · intro w3 hk hm
      refine ⟨⟨_, _, hm.trans hset.1, fun hl e he => ?_⟩, by rw [count_of (hm.trans hset.1), count_of hb]; simp⟩
      rw [Array.toList_push, List.mem_append] at he
      rcases he with he | he
      · exact ((hp e he).tail).same hk
      · rw [List.mem_singleton] at he
        subst he
        exact (Past.own hg hl).same hk
  have hkk : Keeps w (w2.setCell ⟨w.heap.size, 0, none⟩ (.bool true)) := (hk.setCell (p := ⟨w.heap.size, 0, none⟩) (Nat.le_refl _) _).keeps hs
  have hSS := hS _ hkk (Below.heap_setCell _ _ _ _ (by show m ≠ w.heap.size; omega))
  have hK := hk.setCell (p := ⟨w.heap.size, 0, none⟩) (Nat.le_refl _) (.bool true)
  clear hS hkk hk
  generalize val (x :: l) = v at L U ⊢
  have HK := Lib.hid hK
  have HS := Lib.hid hSS
  clear hK hSS hs hg hb hp b0 m0
  go_enter_defers Tryz.func49, Tryz.ntmps49
  go_wp2
  refine leaves_cons (f := 79) (args := #[.pointer (some ⟨w.heap.size, 0, none⟩)]) (by simp) (by simp [go_sem]) ?_
  refine (idle_enter ⟨w.heap.size, 0, none⟩ _).mono ?_
  rintro e u' w'' ⟨rfl, rfl, rfl⟩
  have hlt2 : w.heap.size < w2.heap.size := cell_lt hc
  have hcc : (w2.setCell ⟨w.heap.size, 0, none⟩ (.bool true)).cell? ⟨w.heap.size, 0, none⟩ = some (.bool true) := World.cell?_setCell_same _ _ _ hc
  simp [Leaves, settle, results, Tryz.results49, go_sem, hlt2, hcc]
  exact ⟨HK.out, HS.out.1, HS.out.2⟩
end Go.Proofs.YtfcehhhcjlpklaaGreatDoor

/-
  Layer 2's array of registers after eight steps.
-/
namespace Go.Proofs.YtfcehhhcjlpklaaGreatDoor
open Go.RowKit
set_option linter.unusedVariables false
set_option linter.unusedSimpArgs false

/-- the array when its first n places are filled -/
def tab (n : Nat) : List Value := (List.range 256).map fun m => .int .u32 (if m < n then (Crc.it 8 m : Int) else 0)

theorem tab_length (n : Nat) : (tab n).length = 256 := by simp [tab]
theorem tab_one (n : Nat) : ∀ v ∈ tab n, v.oneCell' = true := by
  intro v hv
  obtain ⟨_, _, rfl⟩ := List.mem_map.1 hv
  rfl
theorem tab_at (n m : Nat) (h : m < 256) : (tab n)[m]? = some (.int .u32 (if m < n then (Crc.it 8 m : Int) else 0)) := by
  simp [tab, h]
theorem tab_set (n : Nat) (h : n < 256) : (tab n).set n (.int .u32 (Crc.it 8 n : Int)) = tab (n + 1) := by
  apply List.ext_getElem?
  intro m
  rw [List.getElem?_set]
  by_cases hm : m < 256
  · rw [tab_at _ _ hm, tab_at _ _ hm, tab_length]
    by_cases e : n = m
    · subst e; simp [hm]
    · rw [if_neg e]
      by_cases h1 : m < n
      · simp [h1, show m < n + 1 by omega]
      · simp [h1, show ¬ m < n + 1 by omega]
  · rw [List.getElem?_eq_none (by rw [tab_length]; omega), List.getElem?_eq_none (by rw [tab_length]; omega), if_neg (by omega)]

theorem tab_zero : (Tryz.prog.info? 200).map (·.zero) = some (some (.agg (tab 0).toArray)) := by kernel_rfl
theorem tab_size : (Tryz.prog.info? 200).map (·.size) = some 256 := by kernel_rfl

theorem tab_size_of (n : Nat) : (Tryz.prog.info? 200).map (·.size) = some (tab n).length := by rw [tab_length]; exact tab_size

theorem tab_one_zero : tab 1 = tab 0 := by
  have h := tab_set 0 (by omega)
  have hz : Crc.it 8 0 = 0 := Crc.it_zero 8
  rw [← h, hz]
  apply List.ext_getElem?
  intro m
  rw [List.getElem?_set]
  by_cases e : 0 = m
  · subst e
    rw [if_pos rfl, tab_length, tab_at _ _ (by omega)]
    rfl
  · rw [if_neg e]

theorem eight_lt {j n : Nat} (hn : n = 2 ^ j) (h : n < 256) : j < 8 := by
  subst hn
  exact (Nat.pow_lt_pow_iff_right (by omega)).1 (show 2 ^ j < 2 ^ 8 from h)

theorem tab_fill {j n low : Nat} (hn : n = 2 ^ j) (hl : low < n) (h : n < 256) : n + low < 256 ∧ Crc.it 8 (n + low) = Crc.it 8 n ^^^ Crc.it 8 low := by
  have hj := eight_lt hn h
  subst hn
  refine ⟨?_, by rw [← Crc.it_xor, Crc.pow_xor j low hl]⟩
  have : 2 ^ j ≤ 2 ^ 7 := Nat.pow_le_pow_right (by omega) (by omega)
  omega

set_option maxRecDepth 100000 in
set_option maxHeartbeats 1000000 in
theorem eight_any (w : World) :
    Calls Tryz.prog 112 #[] w fun e w' => e = .returned (.agg (tab 256).toArray) ∧ Below w.heap.size w w' := by
  have tokA : True := trivial
  go_enter Tryz.func112, Tryz.ntmps112
  go_wp2_with (first
    | (have _t := tokA; with_reducible refine wpList_alloc_row rfl 200 rfl (tab 0) tab_zero ?_; intro wA gA HA HAg hAs hAb; clear tokA _t)
    | (with_reducible refine wpList_alloc_row rfl 200 rfl (tab 0) tab_zero ?_; intro wB gB HB HBg hBs hBb))
  have HA2 : Hid (Blk wB gA 200 (tab 0)) := HA.out.below hBb HA.out.lt
  have HB2 : Hid (Blk wB gB 200 (tab 1)) := by rw [tab_one_zero]; exact HB.out
  have hbel : Below w.heap.size w wB := hAb.trans (hBb.mono (by omega))
  have hgA : w.heap.size ≤ gA := by have := HAg.out; omega
  have hgAB : gA < gB := by have := HAg.out; have := HBg.out; omega
  clear HA HB HAg HBg hAb hBb hAs hBs
  go_loopw [2] (fun b wr => ∃ j n : Nat, Hid (n = 2 ^ j) ∧ 1 ≤ n ∧ n ≤ 256 ∧ b = .int .i64 n ∧ Hid (Blk wr gB 200 (tab n)) ∧ Hid (Blk wr gA 200 (tab 0)) ∧ Below w.heap.size w wr) (fun b _ => 256 - (intOf b).toNat)
  case atStart => exact ⟨0, 1, rfl, by omega, by omega, rfl, HB2, HA2, hbel⟩
  case round =>
    clear HB2 HA2 hbel
    obtain ⟨j, n, HN, hn1, hn2, rfl, HB2, HA2, hbel⟩ := hrel
    obtain ⟨wo, rfl⟩ : ∃ wo : World, wo = wr := ⟨_, rfl⟩
    by_cases hlt : n < 256
    · have hd : decide ((n : Int) < 256) = true := by simp; omega
      go_wp2
      go_loop [3, 11] (fun r i => ∃ k m : Nat, k ≤ 8 ∧ i = .int .i64 k ∧ r = .int .u32 m ∧ m < 4294967296 ∧ Hid (m = Crc.it k n)) (fun _ i => 8 - (intOf i).toNat)
      case atStart => exact ⟨0, n, by omega, rfl, rfl, by omega, rfl⟩
      case round =>
        obtain ⟨k, m, hk, rfl, rfl, hm, HM⟩ := hrel
        by_cases hk8 : k < 8
        · have HS : Hid (Crc.step m = Crc.it (k + 1) n) := by rw [Crc.it_succ, ← HM.out]; rfl
          have hl := Crc.step_lt hm
          go_wp2_with (go_at_call 129; refine (step_any m hm _).mono ?_; rintro e w' ⟨rfl, rfl⟩)
          go_round
          case rel => exact ⟨k + 1, Crc.step m, by omega, by go_num, rfl, hl, HS⟩
          case measure => simp [intOf]; omega
        · obtain rfl : k = 8 := by omega
          go_wp2
          go_loopw [4, 17] (fun _ i wr => ∃ low : Nat, low ≤ n ∧ i = .int .i64 low ∧ Hid (Blk wr gB 200 (tab (n + low))) ∧ Hid (Blk wr gA 200 (tab 0)) ∧ Below w.heap.size w wr) (fun _ i _ => n - (intOf i).toNat)
          case atStart => exact ⟨0, by omega, rfl, HB2, HA2, hbel⟩
          case round =>
            clear HB2 HA2 hbel
            obtain ⟨low, hlow, rfl, HB2, HA2, hbel⟩ := hrel
            by_cases hlw : low < n
            · obtain ⟨hf1, hf2⟩ := tab_fill HN.out hlw hlt
              have hil := Crc.it_lt 8 (n := low) (by omega)
              have hc0 : wr.cell? ⟨gB, low, none⟩ = some (.int .u32 (Crc.it 8 low : Int)) := by
                rw [HB2.out.cell low (by rw [tab_length]; omega)]
                have := tab_at (n + low) low (by omega)
                rw [List.getElem?_eq_getElem (by rw [tab_length]; omega)] at this
                rw [this, if_pos (by omega)]
              have hc1 : wr.cell? ⟨gB, n + low, none⟩ = some (tab (n + low))[n + low]! := by
                rw [HB2.out.cell (n + low) (by rw [tab_length]; omega)]
                simp [tab_length, hf1]
              have hfr := HB2.out.free (n + low)
              have hx : bits .xor .u32 (m : Int) (Crc.it 8 low : Int) = ((Crc.it 8 (n + low) : Nat) : Int) := by
                rw [u32_xor_nat m _ hm hil, HM.out, hf2]
              have HF2 := Lib.hid hf2
              generalize (tab (n + low))[n + low]! = old at *
              generalize Crc.it 8 low = il at *
              clear hf2
              go_wp2
              go_roundw
              case rel =>
                refine ⟨low + 1, by omega, by go_num, ?_, HA2.out.set_other _ _ (by omega), hbel.setCell (by show w.heap.size ≤ gB; omega) _⟩
                have h := HB2.out.set (n + low) (.int .u32 ((Crc.it 8 (n + low) : Nat) : Int))
                rw [tab_set (n + low) hf1] at h
                exact h
              case measure => simp [intOf]; omega
            · obtain rfl : low = n := by omega
              have HJ : Hid (low * 2 = 2 ^ (j + 1)) := by have := HN.out; rw [Nat.pow_succ, ← this]; rfl
              have hle : low * 2 ≤ 256 := by
                have h1 := eight_lt HN.out hlt
                have h2 : 2 ^ (j + 1) ≤ 2 ^ 8 := Nat.pow_le_pow_right (by omega) (by omega)
                have h3 := HJ.out
                omega
              go_wp2
              go_roundw
              case rel =>
                refine ⟨j + 1, low * 2, HJ, by omega, hle, by go_num, ?_, HA2, hbel⟩
                rw [show low * 2 = low + low by omega]
                exact HB2
              case measure => simp [intOf]; omega
    · obtain rfl : n = 256 := by omega
      go_wp2_with (first
        | (refine wpList_load_whole rfl 200 _ rfl gB (by rfl) 200 (tab 256) 256 199 HB2 Tryz.underlying200 (tab_size_of 256) ?_)
        | (refine wpList_store_whole rfl 200 _ _ rfl gA 200 (tab 0) (tab 256) (by rfl) (by rfl) HA2 (tab_size_of 256) (by rw [tab_length, tab_length]) (tab_one 256) ?_; intro wS HS hSs hSb HSo))
      exact bodyPost_ret (results_whole Tryz.results112 _ _ gA 200 (tab 256) 256 199 (by rfl) HS Tryz.underlying200 (tab_size_of 256)) rfl ⟨rfl, hbel.trans (hSb.mono hgA)⟩

end Go.Proofs.YtfcehhhcjlpklaaGreatDoor

/-
  Layer 2's register over bytes; Sum and More.
-/
namespace Go.Proofs.YtfcehhhcjlpklaaGreatDoor
open Go.RowKit
set_option linter.unusedVariables false
set_option linter.unusedSimpArgs false

theorem tab_full (x : Nat) (h : x < 256) {w : World} {g : Nat} (hB : Blk w g 200 (tab 256)) : w.cell? ⟨g, x, none⟩ = some (.int .u32 (Crc.it 8 x : Int)) := by
  rw [hB.cell x (by rw [tab_length]; omega)]
  have := tab_at 256 x h
  rw [List.getElem?_eq_getElem (by rw [tab_length]; omega), if_pos h] at this
  exact this

set_option maxRecDepth 100000 in
set_option maxHeartbeats 400000 in
theorem feed_any (g : Nat) (A : Option Addr) (n c : Nat) (l : List UInt8) (r0 : Nat) (w : World) (hB : Blk w g 200 (tab 256)) (h : Bytes8 w A n c l) (hr : r0 < 4294967296) :
    Calls Tryz.prog 113 #[.pointer (some ⟨g, 0, none⟩), .int .u32 (r0 : Int), .slice A n c] w fun e w' => e = .returned (.int .u32 (Crc.feed r0 l : Int)) ∧ w = w' := by
  have hm := h.le
  by_cases hp : 0 < n
  · obtain ⟨b, off, rfl, hb, hcell⟩ := h.row.lit (by rw [u8s_length, h.len]; omega)
    have HC := Lib.hid hcell
    have HL := Lib.hid h.len
    have HB := Lib.hid hB
    clear h hcell hB
    go_enter Tryz.func113, Tryz.ntmps113
    go_wp2
    go_loop [1, 11] (fun r i => ∃ k m : Nat, k ≤ n ∧ i = .int .i64 k ∧ r = .int .u32 m ∧ m < 4294967296 ∧ Hid (m = Crc.feed r0 (l.take k))) (fun _ i => n - (intOf i).toNat)
    case atStart => exact ⟨0, r0, by omega, rfl, rfl, hr, rfl⟩
    case round =>
      obtain ⟨k, m, hk, rfl, rfl, hmm, HM⟩ := hrel
      by_cases hlt : k < n
      · have hkl : k < l.length := by have := HL.out; omega
        have hcu := UInt8.toNat_lt l[k]
        have hst : Hid (Crc.upd m l[k].toNat = Crc.feed r0 (l.take (k + 1))) := by rw [Crc.feed_take_succ _ _ _ hkl, ← HM.out]; rfl
        have hul := Crc.upd_lt hmm l[k]
        have hc0 : w.cell? ⟨b, off + k, none⟩ = some (.int .u8 (l[k].toNat : Int)) := HC.out k _ (u8s_at l k hkl)
        have hut := Crc.upd_table m l[k].toNat
        generalize l[k].toNat = u at *
        have hxl : (m % 256) ^^^ u < 256 := Nat.xor_lt_two_pow (n := 8) (by omega) (by omega)
        have e1 : bits .xor .u8 ((m : Int) % 256) (u : Int) = (((m % 256) ^^^ u : Nat) : Int) := by
          have := u8_xor_nat (m % 256) u (by omega) (by omega)
          rw [← this]
          congr 1
        have hc1 := tab_full _ hxl HB.out
        have hil := Crc.it_lt 8 (n := (m % 256) ^^^ u) (by omega)
        have e2 : bits .xor .u32 (Crc.it 8 ((m % 256) ^^^ u) : Int) ((m : Int) / 256) = (Crc.upd m u : Int) := by
          rw [← hut, ← u32_xor_nat _ (m / 256) hil (by omega)]
          congr 1
        generalize (m % 256) ^^^ u = x at *
        generalize Crc.upd m u = up at *
        generalize Crc.it 8 x = ix at *
        clear hut
        go_wp2
        go_round
        case rel => exact ⟨k + 1, up, by omega, by go_num, rfl, hul, hst⟩
        case measure => simp [intOf]; omega
      · obtain rfl : k = n := by omega
        have HM2 : Hid (m = Crc.feed r0 l) := by
          have := HM.out
          rwa [List.take_of_length_le (by have := HL.out; omega)] at this
        go_wp2
        go_ret
        exact ⟨ret_int (by rw [HM2.out]), rfl⟩
  · obtain rfl : n = 0 := by omega
    obtain rfl : l = [] := List.eq_nil_of_length_eq_zero h.len
    clear h hB
    go_enter Tryz.func113, Tryz.ntmps113
    go_wp2
    refine wp_loop_rounds 1 ?_
    rw [rounds_succ]
    go_wp2
    go_ret
    exact ⟨rfl, rfl⟩

theorem flat_take_succ (ll : List (List UInt8)) (k : Nat) (h : k < ll.length) : (ll.take (k + 1)).flatten = (ll.take k).flatten ++ ll[k] := by
  rw [List.take_succ_eq_append_getElem h, List.flatten_append]
  simp

theorem xor_ones (m : Nat) (h : m < 4294967296) : bits .xor .u32 (m : Int) 4294967295 = ((m ^^^ Crc.ones : Nat) : Int) :=
  u32_xor_nat m 4294967295 h (by omega)

set_option maxRecDepth 100000 in
set_option maxHeartbeats 800000 in
theorem Sum_any (A : Option Addr) (n c : Nat) (ll : List (List UInt8)) (w : World) (h : Pcs w A n c ll) :
    Calls Tryz.prog 87 #[.slice A n c] w fun e w' => e = .returned (.int .i64 (Crc.sum ll.flatten : Int)) ∧ Below w.heap.size w w' := by
  have hm := h.most
  have hcp := h.cap
  by_cases hp : 0 < n
  · obtain ⟨b, off, rfl, hb, hcell⟩ := h.lit hp
    have HC := Lib.hid hcell
    have HL := Lib.hid h.len
    clear h hcell
    go_enter Tryz.func87, Tryz.ntmps87
    go_wp2_with (first
      | (go_at_call 112; refine (eight_any _).mono ?_; rintro e w1 ⟨rfl, hb1⟩)
      | (refine wpList_alloc_row rfl 200 rfl (tab 0) tab_zero ?_; intro w2 g HB HBg hBs hBb)
      | (refine wpList_store_whole rfl 200 _ _ rfl g 200 (tab 0) (tab 256) (by rfl) (by rfl) HB (tab_size_of 256) (by rw [tab_length, tab_length]) (tab_one 256) ?_; intro w3 HS hSs hSb HSo))
    have hbel : Below w.heap.size w w3 := hb1.trans ((hBb.mono hb1.size).trans (hSb.mono (by have := HBg.out; have := hb1.size; omega)))
    clear HB HBg hBs hBb hSb HSo hSs hb1
    go_loop [4, 10] (fun r i => ∃ k m : Nat, k ≤ n ∧ i = .int .i64 k ∧ r = .int .u32 m ∧ m < 4294967296 ∧ Hid (m = Crc.feed Crc.ones (ll.take k).flatten)) (fun _ i => n - (intOf i).toNat)
    case atStart => exact ⟨0, 4294967295, by omega, rfl, rfl, by omega, rfl⟩
    case round =>
      obtain ⟨k, m, hk, rfl, rfl, hmm, HM⟩ := hrel
      by_cases hlt : k < n
      · have hkl : k < ll.length := by have := HL.out; omega
        obtain ⟨A', m', c', hc0, hB0⟩ := HC.out k hkl
        have hc1 : w3.cell? ⟨b, off + k, none⟩ = some (.slice A' m' c') := (hbel.cell (p := ⟨b, off + k, none⟩) hb).trans hc0
        have F := Lib.hid (feed_any g A' m' c' ll[k] m w3 HS.out (hB0.below hbel) hmm)
        have hfl := Crc.feed_lt hmm ll[k]
        have hst : Hid (Crc.feed m ll[k] = Crc.feed Crc.ones (ll.take (k + 1)).flatten) := by
          rw [flat_take_succ _ _ hkl, Crc.feed_append, ← HM.out]
          rfl
        generalize Crc.feed m ll[k] = up at *
        clear hc0 hB0
        go_wp2_with (go_at_call 113; refine (F.out).mono ?_; rintro e w' ⟨rfl, rfl⟩)
        go_round
        case rel => exact ⟨k + 1, up, by omega, by go_num, rfl, hfl, hst⟩
        case measure => simp [intOf]; omega
      · obtain rfl : k = n := by omega
        have hx := xor_ones m hmm
        have hxl := Crc.xor_lt hmm Crc.ones_lt
        have HM2 : Hid (m ^^^ Crc.ones = Crc.sum ll.flatten) := by
          have := HM.out
          rw [List.take_of_length_le (by have := HL.out; omega)] at this
          rw [this]
          rfl
        generalize m ^^^ Crc.ones = z at *
        go_wp2
        go_ret
        exact ⟨ret_int (by rw [HM2.out]), hbel⟩
  · obtain rfl : n = 0 := by omega
    obtain rfl : ll = [] := List.eq_nil_of_length_eq_zero h.len
    clear h
    go_enter Tryz.func87, Tryz.ntmps87
    go_wp2_with (first
      | (go_at_call 112; refine (eight_any _).mono ?_; rintro e w1 ⟨rfl, hb1⟩)
      | (refine wpList_alloc_row rfl 200 rfl (tab 0) tab_zero ?_; intro w2 g HB HBg hBs hBb)
      | (refine wpList_store_whole rfl 200 _ _ rfl g 200 (tab 0) (tab 256) (by rfl) (by rfl) HB (tab_size_of 256) (by rw [tab_length, tab_length]) (tab_one 256) ?_; intro w3 HS hSs hSb HSo))
    have hbel : Below w.heap.size w w3 := hb1.trans ((hBb.mono hb1.size).trans (hSb.mono (by have := HBg.out; have := hb1.size; omega)))
    clear HB HBg hBs hBb hSb HSo hSs hb1
    have hx : bits .xor .u32 4294967295 4294967295 = 0 := by decide
    refine wp_loop_rounds 1 ?_
    rw [rounds_succ]
    go_wp2
    go_ret
    exact ⟨ret_int (by rw [List.flatten_nil, Crc.sum_nil]; rfl), hbel⟩

end Go.Proofs.YtfcehhhcjlpklaaGreatDoor

/-
  The checksum of one slice, and of none.
-/
namespace Go.Proofs.YtfcehhhcjlpklaaGreatDoor
open Go.RowKit
set_option linter.unusedVariables false
set_option linter.unusedSimpArgs false

theorem Sum_one (A : Option Addr) (n c : Nat) (l : List UInt8) (w : World) (h : Bytes8 w A n c l) :
    Calls Tryz.prog 87 #[.slice (some ⟨w.heap.size, 0, none⟩) 1 1] (w.alloc (.cells #[.slice A n c] 22)) fun e w' => e = .returned (.int .i64 (Crc.sum l : Int)) ∧ Below w.heap.size w w' := by
  refine (Sum_any _ 1 1 [l] _ (Pcs.one h _)).mono ?_
  rintro e w' ⟨rfl, hb⟩
  exact ⟨by simp, ((Below.refl _ _).alloc (Nat.le_refl _) _).trans (hb.mono (by simp))⟩

end Go.Proofs.YtfcehhhcjlpklaaGreatDoor

/-
  Layer 2's Table; the reference's Sum and More; the document's example.
-/
namespace Go.Proofs.YtfcehhhcjlpklaaGreatDoor
open Go.RowKit
set_option linter.unusedVariables false
set_option linter.unusedSimpArgs false

set_option maxRecDepth 100000 in
set_option maxHeartbeats 800000 in
theorem refMore_good (s : Nat) (A : Option Addr) (n c : Nat) (l : List UInt8) (w : World) (h : Bytes8 w A n c l) (hs : s < 4294967296) :
    Calls Tryz.prog 133 #[.int .i64 (s : Int), .slice A n c] w fun e w' => e = .returned (.int .i64 (Crc.more s l : Int)) ∧ w = w' := by
  have hm := h.le
  have hx0 : bits .xor .i64 (s : Int) 4294967295 = ((s ^^^ Crc.ones : Nat) : Int) := i64_xor_nat s 4294967295 (by omega) (by omega)
  have hz := Crc.xor_lt hs Crc.ones_lt
  have HZ : Hid (Crc.feed (s ^^^ Crc.ones) l ^^^ Crc.ones = Crc.more s l) := rfl
  generalize s ^^^ Crc.ones = z at *
  have END : Hid (∀ m : Nat, m < 4294967296 → bits .xor .i64 (m : Int) 4294967295 = ((m ^^^ Crc.ones : Nat) : Int)) := fun m hm => i64_xor_nat m 4294967295 (by omega) (by omega)
  by_cases hp : 0 < n
  · obtain ⟨b, off, rfl, hb, hcell⟩ := h.row.lit (by rw [u8s_length, h.len]; omega)
    have HC := Lib.hid hcell
    have HL := Lib.hid h.len
    clear h hcell
    go_enter Tryz.func133, Tryz.ntmps133
    go_wp2
    go_loop [5, 6] (fun r i => ∃ k m : Nat, k ≤ n ∧ i = .int .i64 k ∧ r = .int .i64 m ∧ m < 4294967296 ∧ Hid (m = Crc.feed z (l.take k))) (fun _ i => n - (intOf i).toNat)
    case atStart => exact ⟨0, z, by omega, rfl, rfl, hz, rfl⟩
    case round =>
      obtain ⟨k, m, hk, rfl, rfl, hmm, HM⟩ := hrel
      by_cases hlt : k < n
      · have hkl : k < l.length := by have := HL.out; omega
        have hcu := UInt8.toNat_lt l[k]
        have hst : Hid (Crc.it 8 (m ^^^ l[k].toNat) = Crc.feed z (l.take (k + 1))) := by rw [Crc.feed_take_succ _ _ _ hkl, ← HM.out]; rfl
        have hc0 : w.cell? ⟨b, off + k, none⟩ = some (.int .u8 (l[k].toNat : Int)) := HC.out k _ (u8s_at l k hkl)
        have hul := Crc.upd_lt hmm l[k]
        unfold Crc.upd at hul
        generalize l[k].toNat = u at *
        have hxl : m ^^^ u < 4294967296 := Crc.xor_lt hmm (by omega)
        have e1 := i64_xor_nat m u (by omega) (by omega)
        have S := Lib.hid (fun W => refStep_any (m ^^^ u) hxl W)
        generalize m ^^^ u = x at *
        generalize Crc.it 8 x = ix at *
        go_wp2_with (go_at_call 142; refine (S.out _).mono ?_; rintro e w' ⟨rfl, rfl⟩)
        go_round
        case rel => exact ⟨k + 1, ix, by omega, by go_num, rfl, hul, hst⟩
        case measure => simp [intOf]; omega
      · obtain rfl : k = n := by omega
        have HM2 : Hid (m = Crc.feed z l) := by
          have := HM.out
          rwa [List.take_of_length_le (by have := HL.out; omega)] at this
        have hx := END.out m hmm
        go_wp2
        go_ret
        exact ⟨ret_int (by rw [← HZ.out, HM2.out]), rfl⟩
  · obtain rfl : n = 0 := by omega
    obtain rfl : l = [] := List.eq_nil_of_length_eq_zero h.len
    have hx := END.out z hz
    clear h
    go_enter Tryz.func133, Tryz.ntmps133
    go_wp2
    refine wp_loop_rounds 1 ?_
    rw [rounds_succ]
    go_wp2
    go_ret
    exact ⟨ret_int (by rw [← HZ.out]; rfl), rfl⟩

set_option maxRecDepth 100000 in
set_option maxHeartbeats 400000 in
theorem refSum_any (A : Option Addr) (n c : Nat) (l : List UInt8) (w : World) (h : Bytes8 w A n c l) :
    Calls Tryz.prog 124 #[.slice A n c] w fun e w' => e = .returned (.int .i64 (Crc.sum l : Int)) ∧ w = w' := by
  have M := Lib.hid (refMore_good 0 A n c l w h (by omega))
  have E : Hid (Crc.more 0 l = Crc.sum l) := by
    show Crc.feed (0 ^^^ Crc.ones) l ^^^ Crc.ones = _
    rw [Nat.zero_xor]
    rfl
  clear h
  generalize Crc.more 0 l = x at *
  go_enter Tryz.func124, Tryz.ntmps124
  go_wp2_with (go_at_call 133; refine (M.out).mono ?_; rintro e w' ⟨rfl, rfl⟩)
  go_ret
  exact ⟨ret_int (by rw [E.out]), rfl⟩

end Go.Proofs.YtfcehhhcjlpklaaGreatDoor
