/- Lengths of bytes. -/
import Derived.Test.YtgofjheoebabeaaGreatDoorHn04
import Derived.Test.YtgofjheoebabeaaGreatDoorHn03
namespace Go.Proofs.YtgofjheoebabeaaGreatDoor
theorem bytes_len (t : ByteArray) : t.data.toList.length = t.size := by rw [Array.length_toList]; rfl
theorem arr_size (l : List UInt8) : (⟨l.toArray⟩ : ByteArray).size = l.length := by
  show l.toArray.size = _; simp
open Go.RowKit in
theorem Off.own {b : Nat} {x w : World} (h : Off b x w) {p : Addr} (hp : x.heap.size ≤ p.block) (u : Value) : Off b x (w.setCell p u) :=
  ⟨h.os, h.tape, h.output, by simpa [World.setCell] using h.size, fun k hk hb => (Below.heap_setCell _ _ _ _ (by omega)).trans (h.block k hk hb)⟩
end Go.Proofs.YtgofjheoebabeaaGreatDoor

namespace Go.Proofs.YtgofjheoebabeaaGreatDoor
open Go.RowKit
set_option linter.unusedVariables false
set_option linter.unusedSimpArgs false

def leB (x i : Nat) : UInt8 := UInt8.ofNat (x / 256 ^ i % 256)
def leN (x k : Nat) : List UInt8 := (List.range k).map (leB x)
def le8 (x : Nat) : List UInt8 := leN x 8

theorem leN_succ (x k : Nat) : leN x (k + 1) = leN x k ++ [leB x k] := by simp [leN, List.range_succ]
theorem leB_nat (x i : Nat) : (leB x i).toNat = x / 256 ^ i % 256 := by simp [leB, UInt8.toNat_ofNat']

theorem pow256 (k : Nat) : (256 : Nat) ^ k = 2 ^ (8 * k) := by rw [Nat.pow_mul]
theorem leI (x k : Nat) : (x : Int) / 2 ^ (8 * k) % 256 = (x : Int) / 256 ^ k % 256 := by
  have e : (256 : Int) ^ k = 2 ^ (8 * k) := by rw [Int.pow_mul]; rfl
  rw [e]

theorem run_f64bits (b : Nat) (w : World) : (callFunc 73 #[.float .f64 b]).run Tryz.prog w = .ok (.value (.int .u64 b)) w := by kernel_rfl
theorem run_f64from (n : Nat) (w : World) : (callFunc 101 #[.int .u64 n]).run Tryz.prog w = .ok (.value (.float .f64 n)) w := by kernel_rfl

end Go.Proofs.YtgofjheoebabeaaGreatDoor

namespace Go.Proofs.YtgofjheoebabeaaGreatDoor
open Go.RowKit
set_option linter.unusedVariables false
set_option linter.unusedSimpArgs false

structure Oo where
  k : Int
  g : Int
  a : Int
  d : Int
  i : Int
  pr : Nat

def Oo.val (o : Oo) : Value := .agg #[.int .i64 o.k, .int .i64 o.g, .int .i64 o.a, .int .i64 o.d, .int .i64 o.i, .float .f64 o.pr]
def Oo.ints (o : Oo) : List Int := [o.k, o.g, o.a, o.d, o.i]
def numOk (n : Int) : Bool := decide (0 ≤ n ∧ n ≤ 9007199254740992)
def encI (n : Int) : List UInt8 := enc n.toNat
def opOk (o : Oo) : Bool := o.ints.all numOk
def opB (o : Oo) : List UInt8 := o.ints.flatMap encI ++ le8 o.pr
def opR (o : Oo) : Array Value := if opOk o = true then #[.string ⟨(opB o).toArray⟩, .int .i64 0] else #[.string ⟨#[]⟩, .int .i64 14]

theorem isNumber_callsO (n : Int) (w : World) :
    Calls Tryz.prog 46 #[.int .i64 n] w fun e w' => e = .returned (.bool (numOk n)) ∧ w' = w := by
  go_enter Tryz.func46, Tryz.ntmps46
  go_wp2_with fail
  refine (within_calls n 9007199254740992 w).mono ?_
  rintro e w1 ⟨rfl, rfl⟩
  go_wp2
  go_ret
  exact ⟨by simp [numOk], rfl⟩

theorem ints_len (o : Oo) : o.ints.length = 5 := rfl
theorem all_split {α : Type} (f : α → Bool) (l : List α) (k : Nat) (h : k < l.length) : l.all f = ((l.take k).all f && (f l[k] && (l.drop (k + 1)).all f)) := by
  have e : l.take k ++ (l[k] :: l.drop (k + 1)) = l := by rw [← List.drop_eq_getElem_cons h, List.take_append_drop]
  rw [← List.all_cons, ← List.all_append, e]
theorem leN_len (x k : Nat) : (leN x k).length = k := by simp [leN]
theorem ints_take_len (o : Oo) (j : Nat) : ((o.ints.take j).flatMap encI).length ≤ 50 := by
  have h1 : ∀ (l : List Int), (l.flatMap encI).length ≤ 10 * l.length := by
    intro l
    induction l with
    | nil => simp
    | cons x l ih =>
      have e := enc_le x.toNat
      rw [List.flatMap_cons, List.length_append, List.length_cons]
      unfold encI at *
      omega
  have h2 := h1 (o.ints.take j)
  have h3 : (o.ints.take j).length ≤ 5 := by rw [List.length_take, ints_len]; omega
  omega

end Go.Proofs.YtgofjheoebabeaaGreatDoor

namespace Go.Proofs.YtgofjheoebabeaaGreatDoor
open Go.RowKit
set_option linter.unusedVariables false
set_option linter.unusedSimpArgs false

def byteAt (s : ByteArray) (j : Nat) : Nat := if h : j < s.size then s[j].toNat else 0
def leSum (s : ByteArray) (a : Nat) : Nat → Nat
  | 0 => 0
  | k + 1 => leSum s a k + byteAt s (a + k) * 256 ^ k

theorem byteAt_lt (s : ByteArray) (j : Nat) : byteAt s j < 256 := by
  unfold byteAt
  split
  · exact UInt8.toNat_lt _
  · decide
theorem leSum_lt (s : ByteArray) (a : Nat) : ∀ k, leSum s a k < 256 ^ k
  | 0 => by simp [leSum]
  | k + 1 => by
    have h1 := leSum_lt s a k
    have h2 := byteAt_lt s (a + k)
    have h3 : byteAt s (a + k) * 256 ^ k ≤ 255 * 256 ^ k := Nat.mul_le_mul_right _ (by omega)
    simp only [leSum]
    rw [Nat.pow_succ]
    omega

def rd8 (s : ByteArray) (a : Nat) : Except Int (Nat × Nat) := if s.size < a + 8 then .error 10 else .ok (leSum s a 8, a + 8)
def rdOp5 (s : ByteArray) (n0 n1 n2 n3 n4 : Nat) (a : Nat) : Except Int (Oo × Nat) :=
  match rd8 s a with
  | .error e => .error e
  | .ok (p, nx) => .ok (⟨n0, n1, n2, n3, n4, p⟩, nx)
def rdOp4 (s : ByteArray) (n0 n1 n2 n3 : Nat) (a : Nat) : Except Int (Oo × Nat) :=
  match rdInt s a with
  | .error e => .error e
  | .ok (n, nx) => rdOp5 s n0 n1 n2 n3 n nx
def rdOp3 (s : ByteArray) (n0 n1 n2 : Nat) (a : Nat) : Except Int (Oo × Nat) :=
  match rdInt s a with
  | .error e => .error e
  | .ok (n, nx) => rdOp4 s n0 n1 n2 n nx
def rdOp2 (s : ByteArray) (n0 n1 : Nat) (a : Nat) : Except Int (Oo × Nat) :=
  match rdInt s a with
  | .error e => .error e
  | .ok (n, nx) => rdOp3 s n0 n1 n nx
def rdOp1 (s : ByteArray) (n0 : Nat) (a : Nat) : Except Int (Oo × Nat) :=
  match rdInt s a with
  | .error e => .error e
  | .ok (n, nx) => rdOp2 s n0 n nx
def rdOp (s : ByteArray) (a : Nat) : Except Int (Oo × Nat) :=
  match rdInt s a with
  | .error e => .error e
  | .ok (n, nx) => rdOp1 s n nx

def ofOpR (s : ByteArray) : Except Int Oo :=
  if 256 < s.size then .error 4
  else match rdOp s 0 with
    | .error e => .error e
    | .ok (o, nx) => if nx < s.size then .error 12 else .ok o

def leVal : List UInt8 → Nat
  | [] => 0
  | c :: l => c.toNat + 256 * leVal l
theorem leVal_snoc (l : List UInt8) (c : UInt8) : leVal (l ++ [c]) = leVal l + c.toNat * 256 ^ l.length := by
  induction l with
  | nil => simp [leVal]
  | cons x l ih =>
    simp only [List.cons_append, leVal, ih, List.length_cons, Nat.pow_succ, Nat.mul_add]
    have e : 256 * (c.toNat * 256 ^ l.length) = c.toNat * (256 ^ l.length * 256) := by
      rw [Nat.mul_left_comm, Nat.mul_comm 256]
    omega
theorem leVal_leN (x : Nat) : ∀ k, leVal (leN x k) = x % 256 ^ k
  | 0 => by simp [leN, leVal, Nat.mod_one]
  | k + 1 => by
    rw [leN_succ, leVal_snoc, leVal_leN x k, leB_nat, leN_len, Nat.pow_succ, Nat.mod_mul]
    rw [Nat.mul_comm (256 ^ k)]
theorem leSum_list (s : ByteArray) (a : Nat) : ∀ k, a + k ≤ s.size → leSum s a k = leVal ((s.data.toList.drop a).take k)
  | 0, _ => by simp [leSum, leVal]
  | k + 1, h => by
    have hk : k < (s.data.toList.drop a).length := by rw [List.length_drop, bytes_len]; omega
    have hlt : a + k < s.size := by omega
    rw [List.take_succ_eq_append_getElem hk, leVal_snoc, ← leSum_list s a k (by omega), List.length_take, Nat.min_eq_left (by omega)]
    simp only [leSum]
    unfold byteAt
    rw [dif_pos hlt]
    congr 2
    rw [List.getElem_drop]
    rfl

theorem rdInt_there (pre post : List UInt8) (m : Nat) (h : m ≤ 9007199254740992) : rdInt ⟨(pre ++ (enc m ++ post)).toArray⟩ pre.length = .ok (m, pre.length + (enc m).length) := by
  rw [rdInt_list]
  simp only [List.toList_toArray, List.drop_left]
  rw [rdP_enc0 m post h]
  rfl
theorem rd8_there (pre : List UInt8) (x : Nat) (h : x < 18446744073709551616) : rd8 ⟨(pre ++ le8 x).toArray⟩ pre.length = .ok (x, pre.length + 8) := by
  have hs : (⟨(pre ++ le8 x).toArray⟩ : ByteArray).size = pre.length + 8 := by rw [arr_size, List.length_append]; rfl
  unfold rd8
  rw [if_neg (by omega), leSum_list _ _ 8 (by omega)]
  simp only [List.toList_toArray, List.drop_left]
  have e : (le8 x).take 8 = le8 x := List.take_of_length_le (by show (leN x 8).length ≤ 8; rw [leN_len]; omega)
  rw [e, show le8 x = leN x 8 from rfl, leVal_leN, Nat.mod_eq_of_lt (by omega)]

theorem opOk_parts {o : Oo} (h : opOk o = true) : (0 ≤ o.k ∧ o.k ≤ 9007199254740992) ∧ (0 ≤ o.g ∧ o.g ≤ 9007199254740992) ∧ (0 ≤ o.a ∧ o.a ≤ 9007199254740992) ∧ (0 ≤ o.d ∧ o.d ≤ 9007199254740992) ∧ (0 ≤ o.i ∧ o.i ≤ 9007199254740992) := by
  simp only [opOk, Oo.ints, List.all_cons, List.all_nil, Bool.and_eq_true, numOk, decide_eq_true_eq] at h
  omega

theorem rdOp_there (o : Oo) (h : opOk o = true) (hp : o.pr < 18446744073709551616) : rdOp ⟨(opB o).toArray⟩ 0 = .ok (o, (opB o).length) := by
  obtain ⟨h0, h1, h2, h3, h4⟩ := opOk_parts h
  obtain ⟨k, g, a, d, i, pr⟩ := o
  simp only at h0 h1 h2 h3 h4 hp
  obtain ⟨n0, rfl⟩ := Int.eq_ofNat_of_zero_le h0.1
  obtain ⟨n1, rfl⟩ := Int.eq_ofNat_of_zero_le h1.1
  obtain ⟨n2, rfl⟩ := Int.eq_ofNat_of_zero_le h2.1
  obtain ⟨n3, rfl⟩ := Int.eq_ofNat_of_zero_le h3.1
  obtain ⟨n4, rfl⟩ := Int.eq_ofNat_of_zero_le h4.1
  have e : opB ⟨(n0 : Int), (n1 : Int), (n2 : Int), (n3 : Int), (n4 : Int), pr⟩ = enc n0 ++ (enc n1 ++ (enc n2 ++ (enc n3 ++ (enc n4 ++ le8 pr)))) := by simp [opB, Oo.ints, encI]
  rw [e]
  have s0 := rdInt_there [] (enc n1 ++ (enc n2 ++ (enc n3 ++ (enc n4 ++ le8 pr)))) n0 (by omega)
  have s1 := rdInt_there (enc n0) (enc n2 ++ (enc n3 ++ (enc n4 ++ le8 pr))) n1 (by omega)
  have s2 := rdInt_there (enc n0 ++ enc n1) (enc n3 ++ (enc n4 ++ le8 pr)) n2 (by omega)
  have s3 := rdInt_there (enc n0 ++ enc n1 ++ enc n2) (enc n4 ++ le8 pr) n3 (by omega)
  have s4 := rdInt_there (enc n0 ++ enc n1 ++ enc n2 ++ enc n3) (le8 pr) n4 (by omega)
  have s5 := rd8_there (enc n0 ++ enc n1 ++ enc n2 ++ enc n3 ++ enc n4) pr hp
  simp only [List.nil_append, List.length_nil, Nat.zero_add, List.append_assoc, List.length_append] at s0 s1 s2 s3 s4 s5
  simp only [← Nat.add_assoc] at s0 s1 s2 s3 s4 s5
  unfold rdOp
  rw [s0]
  simp only [rdOp1]
  rw [s1]
  simp only [rdOp2]
  rw [s2]
  simp only [rdOp3]
  rw [s3]
  simp only [rdOp4]
  rw [s4]
  simp only [rdOp5]
  rw [s5]
  have e8 : (le8 pr).length = 8 := leN_len _ _
  simp only [Except.ok.injEq, Prod.mk.injEq, true_and, List.length_append, e8]
  omega

theorem of_op (o : Oo) (h : opOk o = true) (hp : o.pr < 18446744073709551616) : ofOpR ⟨(opB o).toArray⟩ = .ok o := by
  have hl : (opB o).length ≤ 58 := by
    have h1 := ints_take_len o 5
    have e8 : (le8 o.pr).length = 8 := leN_len _ _
    unfold opB
    rw [List.length_append]
    have e5 : o.ints.take 5 = o.ints := rfl
    rw [e5] at h1
    omega
  unfold ofOpR
  rw [arr_size, if_neg (by omega), rdOp_there o h hp]
  simp only
  rw [if_neg (by omega)]
end Go.Proofs.YtgofjheoebabeaaGreatDoor
