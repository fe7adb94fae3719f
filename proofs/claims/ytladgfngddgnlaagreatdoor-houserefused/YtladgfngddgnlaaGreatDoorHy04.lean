/- Numbers there and back: plain lists of bytes. -/
import Derived.Test.YtladgfngddgnlaaGreatDoorHy03
namespace Go.Proofs.YtladgfngddgnlaaGreatDoor
open Go.RowKit
set_option linter.unusedVariables false
set_option linter.unusedSimpArgs false

/-- As rdF, over a list: the number and how many bytes in all. -/
def rdP : Nat → Nat → Nat → List UInt8 → Except Int (Nat × Nat)
  | 0, _, _, _ => .error 11
  | k + 1, _, _, [] => .error 10
  | k + 1, i, n, c :: l =>
    if 128 ≤ c.toNat then rdP k (i + 1) (n + c.toNat % 128 * 128 ^ i) l
    else if (c.toNat = 0 ∧ 0 < i) ∨ 9007199254740992 < n + c.toNat % 128 * 128 ^ i then .error 11
    else .ok (n + c.toNat % 128 * 128 ^ i, i + 1)

/-- A reading at a place, out of one over a list. -/
def shiftR {α : Type} (a : Nat) : Except Int (α × Nat) → Except Int (α × Nat)
  | .ok (x, c) => .ok (x, a + c)
  | .error e => .error e

theorem drop_at (s : ByteArray) (j : Nat) (h : j < s.size) : s.data.toList.drop j = s[j] :: s.data.toList.drop (j + 1) := by
  have h' : j < s.data.toList.length := by rw [Array.length_toList]; exact h
  rw [List.drop_eq_getElem_cons h']; rfl

theorem rdF_list (s : ByteArray) (a : Nat) : ∀ (k i n : Nat), rdF s a k i n = shiftR a (rdP k i n (s.data.toList.drop (a + i))) := by
  intro k
  induction k with
  | zero => intro i n; rfl
  | succ k ih =>
    intro i n
    by_cases h : a + i < s.size
    · rw [drop_at s (a + i) h]
      simp only [rdF, h, dite_true, rdP]
      split
      · rw [ih]; rfl
      · split
        · rfl
        · simp [shiftR]; omega
    · have e : s.data.toList.drop (a + i) = [] := List.drop_of_length_le (by rw [Array.length_toList]; show s.size ≤ _; omega)
      rw [e]
      simp only [rdF, h, dite_false, rdP, shiftR]

theorem rdInt_list (s : ByteArray) (a : Nat) : rdInt s a = shiftR a (rdP 8 0 0 (s.data.toList.drop a)) := rdF_list s a 8 0 0

theorem byte_small (m : Nat) (h : m < 256) : (UInt8.ofNat m).toNat = m := by simp [UInt8.toNat_ofNat']; omega

/-- What was laid is read again, whatever stands behind. -/
theorem rdP_enc (post : List UInt8) : ∀ (k K i n m : Nat), k ≤ K → m < 128 ^ k → 1 ≤ k → (0 < i → 0 < m) → n + m * 128 ^ i ≤ 9007199254740992 →
    rdP K i n (encF k m ++ post) = .ok (n + m * 128 ^ i, i + (encF k m).length) := by
  intro k
  induction k with
  | zero => intro K i n m _ _ h; omega
  | succ k ih =>
    intro K i n m hK hm _ hi hn
    obtain ⟨K', rfl⟩ : ∃ K', K = K' + 1 := ⟨K - 1, by omega⟩
    by_cases h : m < 128
    · have e : encF (k + 1) m = [UInt8.ofNat m] := by simp [encF, h]
      rw [e]
      have e2 := byte_small m (by omega)
      have e3 : m % 128 = m := Nat.mod_eq_of_lt h
      simp only [List.cons_append, List.nil_append, rdP, e2, e3]
      rw [if_neg (by omega), if_neg (by omega)]
      simp
    · have e : encF (k + 1) m = UInt8.ofNat (128 + m % 128) :: encF k (m / 128) := by simp [encF, h]
      rw [e]
      have e2 := byte_small (128 + m % 128) (by omega)
      have e3 : (128 + m % 128) % 128 = m % 128 := by omega
      simp only [List.cons_append, rdP, e2, e3]
      rw [if_pos (by omega)]
      have hk : 1 ≤ k := by
        rcases Nat.eq_zero_or_pos k with h0 | h0
        · subst h0; simp at hm; omega
        · exact h0
      have hsplit : m % 128 * 128 ^ i + m / 128 * 128 ^ (i + 1) = m * 128 ^ i := by
        rw [Nat.pow_succ, Nat.mul_comm (128 ^ i) 128, ← Nat.mul_assoc, ← Nat.add_mul]
        congr 1; omega
      have hr := ih K' (i + 1) (n + m % 128 * 128 ^ i) (m / 128) (by omega) (by rw [Nat.pow_succ] at hm; omega) hk (fun _ => by omega) (by omega)
      rw [hr]
      simp only [List.length_cons, Except.ok.injEq, Prod.mk.injEq]
      omega

theorem encF_more : ∀ (k K m : Nat), 1 ≤ k → k ≤ K → m < 128 ^ k → encF K m = encF k m := by
  intro k
  induction k with
  | zero => intro K m h; omega
  | succ k ih =>
    intro K m _ hK hm
    obtain ⟨K', rfl⟩ : ∃ K', K = K' + 1 := ⟨K - 1, by omega⟩
    by_cases h : m < 128
    · simp [encF, h]
    · have hk : 1 ≤ k := by
        rcases Nat.eq_zero_or_pos k with h0 | h0
        · subst h0; simp at hm; omega
        · exact h0
      simp only [encF, h, if_false]
      rw [ih K' (m / 128) hk (by omega) (by rw [Nat.pow_succ] at hm; omega)]

theorem enc8 {m : Nat} (h : m ≤ 9007199254740992) : enc m = encF 8 m := by
  have e : (9007199254740992 : Nat) < 128 ^ 8 := by decide
  exact encF_more 8 10 m (by decide) (by decide) (by omega)

theorem rdP_enc0 (m : Nat) (post : List UInt8) (h : m ≤ 9007199254740992) : rdP 8 0 0 (enc m ++ post) = .ok (m, (enc m).length) := by
  have e : (9007199254740992 : Nat) < 128 ^ 8 := by decide
  rw [enc8 h]
  have hr := rdP_enc post 8 8 0 0 m (Nat.le_refl _) (by omega) (by decide) (fun h => by omega) (by simpa using h)
  simpa using hr

end Go.Proofs.YtladgfngddgnlaaGreatDoor

namespace Go.Proofs.YtladgfngddgnlaaGreatDoor
theorem bytes_len (t : ByteArray) : t.data.toList.length = t.size := by rw [Array.length_toList]; rfl
theorem arr_size (l : List UInt8) : (⟨l.toArray⟩ : ByteArray).size = l.length := by
  show l.toArray.size = _; simp
open Go.RowKit in
theorem Off.own {b : Nat} {x w : World} (h : Off b x w) {p : Addr} (hp : x.heap.size ≤ p.block) (u : Value) : Off b x (w.setCell p u) :=
  ⟨h.os, h.tape, h.output, by simpa [World.setCell] using h.size, fun k hk hb => (Below.heap_setCell _ _ _ _ (by omega)).trans (h.block k hk hb)⟩
end Go.Proofs.YtladgfngddgnlaaGreatDoor

namespace Go.Proofs.YtladgfngddgnlaaGreatDoor
open Go.RowKit
set_option linter.unusedVariables false
set_option linter.unusedSimpArgs false

def leB (x i : Nat) : UInt8 := UInt8.ofNat (x / 256 ^ i % 256)
def leN (x k : Nat) : List UInt8 := (List.range k).map (leB x)
def le8 (x : Nat) : List UInt8 := leN x 8

theorem leN_succ (x k : Nat) : leN x (k + 1) = leN x k ++ [leB x k] := by simp [leN, List.range_succ]
theorem leB_nat (x i : Nat) : (leB x i).toNat = x / 256 ^ i % 256 := by simp [leB, UInt8.toNat_ofNat']

theorem pow256 (k : Nat) : (256 : Nat) ^ k = 2 ^ (8 * k) := by rw [Nat.pow_mul]
theorem run_f64bits (b : Nat) (w : World) : (callFunc 51 #[.float .f64 b]).run Tryz.prog w = .ok (.value (.int .u64 b)) w := by kernel_rfl
theorem run_f64from (n : Nat) (w : World) : (callFunc 31 #[.int .u64 n]).run Tryz.prog w = .ok (.value (.float .f64 n)) w := by kernel_rfl

end Go.Proofs.YtladgfngddgnlaaGreatDoor

namespace Go.Proofs.YtladgfngddgnlaaGreatDoor
open Go.RowKit
set_option linter.unusedVariables false
set_option linter.unusedSimpArgs false

structure Oo where
  k : Int
  g : Int
  a : Int
  d : Int
  i : Int
  pr : Nat

def Oo.val (o : Oo) : Value := .agg #[.int .i64 o.k, .int .i64 o.g, .int .i64 o.a, .int .i64 o.d, .int .i64 o.i, .float .f64 o.pr]
def Oo.ints (o : Oo) : List Int := [o.k, o.g, o.a, o.d, o.i]
def numOk (n : Int) : Bool := decide (0 ≤ n ∧ n ≤ 9007199254740992)
def encI (n : Int) : List UInt8 := enc n.toNat
def opOk (o : Oo) : Bool := o.ints.all numOk
def opB (o : Oo) : List UInt8 := o.ints.flatMap encI ++ le8 o.pr
def opR (o : Oo) : Array Value := if opOk o = true then #[.string ⟨(opB o).toArray⟩, .int .i64 0] else #[.string ⟨#[]⟩, .int .i64 14]

theorem ints_len (o : Oo) : o.ints.length = 5 := rfl
theorem all_split {α : Type} (f : α → Bool) (l : List α) (k : Nat) (h : k < l.length) : l.all f = ((l.take k).all f && (f l[k] && (l.drop (k + 1)).all f)) := by
  have e : l.take k ++ (l[k] :: l.drop (k + 1)) = l := by rw [← List.drop_eq_getElem_cons h, List.take_append_drop]
  rw [← List.all_cons, ← List.all_append, e]
theorem leN_len (x k : Nat) : (leN x k).length = k := by simp [leN]
theorem ints_take_len (o : Oo) (j : Nat) : ((o.ints.take j).flatMap encI).length ≤ 50 := by
  have h1 : ∀ (l : List Int), (l.flatMap encI).length ≤ 10 * l.length := by
    intro l
    induction l with
    | nil => simp
    | cons x l ih =>
      have e := enc_le x.toNat
      rw [List.flatMap_cons, List.length_append, List.length_cons]
      unfold encI at *
      omega
  have h2 := h1 (o.ints.take j)
  have h3 : (o.ints.take j).length ≤ 5 := by rw [List.length_take, ints_len]; omega
  omega

end Go.Proofs.YtladgfngddgnlaaGreatDoor

namespace Go.Proofs.YtladgfngddgnlaaGreatDoor
open Go.RowKit
set_option linter.unusedVariables false
set_option linter.unusedSimpArgs false

def byteAt (s : ByteArray) (j : Nat) : Nat := if h : j < s.size then s[j].toNat else 0
def leSum (s : ByteArray) (a : Nat) : Nat → Nat
  | 0 => 0
  | k + 1 => leSum s a k + byteAt s (a + k) * 256 ^ k

theorem byteAt_lt (s : ByteArray) (j : Nat) : byteAt s j < 256 := by
  unfold byteAt
  split
  · exact UInt8.toNat_lt _
  · decide
theorem leSum_lt (s : ByteArray) (a : Nat) : ∀ k, leSum s a k < 256 ^ k
  | 0 => by simp [leSum]
  | k + 1 => by
    have h1 := leSum_lt s a k
    have h2 := byteAt_lt s (a + k)
    have h3 : byteAt s (a + k) * 256 ^ k ≤ 255 * 256 ^ k := Nat.mul_le_mul_right _ (by omega)
    simp only [leSum]
    rw [Nat.pow_succ]
    omega

def rd8 (s : ByteArray) (a : Nat) : Except Int (Nat × Nat) := if s.size < a + 8 then .error 10 else .ok (leSum s a 8, a + 8)
def rdOp5 (s : ByteArray) (n0 n1 n2 n3 n4 : Nat) (a : Nat) : Except Int (Oo × Nat) :=
  match rd8 s a with
  | .error e => .error e
  | .ok (p, nx) => .ok (⟨n0, n1, n2, n3, n4, p⟩, nx)
def rdOp4 (s : ByteArray) (n0 n1 n2 n3 : Nat) (a : Nat) : Except Int (Oo × Nat) :=
  match rdInt s a with
  | .error e => .error e
  | .ok (n, nx) => rdOp5 s n0 n1 n2 n3 n nx
def rdOp3 (s : ByteArray) (n0 n1 n2 : Nat) (a : Nat) : Except Int (Oo × Nat) :=
  match rdInt s a with
  | .error e => .error e
  | .ok (n, nx) => rdOp4 s n0 n1 n2 n nx
def rdOp2 (s : ByteArray) (n0 n1 : Nat) (a : Nat) : Except Int (Oo × Nat) :=
  match rdInt s a with
  | .error e => .error e
  | .ok (n, nx) => rdOp3 s n0 n1 n nx
def rdOp1 (s : ByteArray) (n0 : Nat) (a : Nat) : Except Int (Oo × Nat) :=
  match rdInt s a with
  | .error e => .error e
  | .ok (n, nx) => rdOp2 s n0 n nx
def rdOp (s : ByteArray) (a : Nat) : Except Int (Oo × Nat) :=
  match rdInt s a with
  | .error e => .error e
  | .ok (n, nx) => rdOp1 s n nx

def ofOpR (s : ByteArray) : Except Int Oo :=
  if 256 < s.size then .error 4
  else match rdOp s 0 with
    | .error e => .error e
    | .ok (o, nx) => if nx < s.size then .error 12 else .ok o

def leVal : List UInt8 → Nat
  | [] => 0
  | c :: l => c.toNat + 256 * leVal l
theorem leVal_snoc (l : List UInt8) (c : UInt8) : leVal (l ++ [c]) = leVal l + c.toNat * 256 ^ l.length := by
  induction l with
  | nil => simp [leVal]
  | cons x l ih =>
    simp only [List.cons_append, leVal, ih, List.length_cons, Nat.pow_succ, Nat.mul_add]
    have e : 256 * (c.toNat * 256 ^ l.length) = c.toNat * (256 ^ l.length * 256) := by
      rw [Nat.mul_left_comm, Nat.mul_comm 256]
    omega
theorem leVal_leN (x : Nat) : ∀ k, leVal (leN x k) = x % 256 ^ k
  | 0 => by simp [leN, leVal, Nat.mod_one]
  | k + 1 => by
    rw [leN_succ, leVal_snoc, leVal_leN x k, leB_nat, leN_len, Nat.pow_succ, Nat.mod_mul]
    rw [Nat.mul_comm (256 ^ k)]
theorem leSum_list (s : ByteArray) (a : Nat) : ∀ k, a + k ≤ s.size → leSum s a k = leVal ((s.data.toList.drop a).take k)
  | 0, _ => by simp [leSum, leVal]
  | k + 1, h => by
    have hk : k < (s.data.toList.drop a).length := by rw [List.length_drop, bytes_len]; omega
    have hlt : a + k < s.size := by omega
    rw [List.take_succ_eq_append_getElem hk, leVal_snoc, ← leSum_list s a k (by omega), List.length_take, Nat.min_eq_left (by omega)]
    simp only [leSum]
    unfold byteAt
    rw [dif_pos hlt]
    congr 2
    rw [List.getElem_drop]
    rfl

theorem rdInt_there (pre post : List UInt8) (m : Nat) (h : m ≤ 9007199254740992) : rdInt ⟨(pre ++ (enc m ++ post)).toArray⟩ pre.length = .ok (m, pre.length + (enc m).length) := by
  rw [rdInt_list]
  simp only [List.toList_toArray, List.drop_left]
  rw [rdP_enc0 m post h]
  rfl
theorem rd8_there (pre : List UInt8) (x : Nat) (h : x < 18446744073709551616) : rd8 ⟨(pre ++ le8 x).toArray⟩ pre.length = .ok (x, pre.length + 8) := by
  have hs : (⟨(pre ++ le8 x).toArray⟩ : ByteArray).size = pre.length + 8 := by rw [arr_size, List.length_append]; rfl
  unfold rd8
  rw [if_neg (by omega), leSum_list _ _ 8 (by omega)]
  simp only [List.toList_toArray, List.drop_left]
  have e : (le8 x).take 8 = le8 x := List.take_of_length_le (by show (leN x 8).length ≤ 8; rw [leN_len]; omega)
  rw [e, show le8 x = leN x 8 from rfl, leVal_leN, Nat.mod_eq_of_lt (by omega)]

theorem opOk_parts {o : Oo} (h : opOk o = true) : (0 ≤ o.k ∧ o.k ≤ 9007199254740992) ∧ (0 ≤ o.g ∧ o.g ≤ 9007199254740992) ∧ (0 ≤ o.a ∧ o.a ≤ 9007199254740992) ∧ (0 ≤ o.d ∧ o.d ≤ 9007199254740992) ∧ (0 ≤ o.i ∧ o.i ≤ 9007199254740992) := by
  simp only [opOk, Oo.ints, List.all_cons, List.all_nil, Bool.and_eq_true, numOk, decide_eq_true_eq] at h
  omega

theorem rdOp_there (o : Oo) (h : opOk o = true) (hp : o.pr < 18446744073709551616) : rdOp ⟨(opB o).toArray⟩ 0 = .ok (o, (opB o).length) := by
  obtain ⟨h0, h1, h2, h3, h4⟩ := opOk_parts h
  obtain ⟨k, g, a, d, i, pr⟩ := o
  simp only at h0 h1 h2 h3 h4 hp
  obtain ⟨n0, rfl⟩ := Int.eq_ofNat_of_zero_le h0.1
  obtain ⟨n1, rfl⟩ := Int.eq_ofNat_of_zero_le h1.1
  obtain ⟨n2, rfl⟩ := Int.eq_ofNat_of_zero_le h2.1
  obtain ⟨n3, rfl⟩ := Int.eq_ofNat_of_zero_le h3.1
  obtain ⟨n4, rfl⟩ := Int.eq_ofNat_of_zero_le h4.1
  have e : opB ⟨(n0 : Int), (n1 : Int), (n2 : Int), (n3 : Int), (n4 : Int), pr⟩ = enc n0 ++ (enc n1 ++ (enc n2 ++ (enc n3 ++ (enc n4 ++ le8 pr)))) := by simp [opB, Oo.ints, encI]
  rw [e]
  have s0 := rdInt_there [] (enc n1 ++ (enc n2 ++ (enc n3 ++ (enc n4 ++ le8 pr)))) n0 (by omega)
  have s1 := rdInt_there (enc n0) (enc n2 ++ (enc n3 ++ (enc n4 ++ le8 pr))) n1 (by omega)
  have s2 := rdInt_there (enc n0 ++ enc n1) (enc n3 ++ (enc n4 ++ le8 pr)) n2 (by omega)
  have s3 := rdInt_there (enc n0 ++ enc n1 ++ enc n2) (enc n4 ++ le8 pr) n3 (by omega)
  have s4 := rdInt_there (enc n0 ++ enc n1 ++ enc n2 ++ enc n3) (le8 pr) n4 (by omega)
  have s5 := rd8_there (enc n0 ++ enc n1 ++ enc n2 ++ enc n3 ++ enc n4) pr hp
  simp only [List.nil_append, List.length_nil, Nat.zero_add, List.append_assoc, List.length_append] at s0 s1 s2 s3 s4 s5
  simp only [← Nat.add_assoc] at s0 s1 s2 s3 s4 s5
  unfold rdOp
  rw [s0]
  simp only [rdOp1]
  rw [s1]
  simp only [rdOp2]
  rw [s2]
  simp only [rdOp3]
  rw [s3]
  simp only [rdOp4]
  rw [s4]
  simp only [rdOp5]
  rw [s5]
  have e8 : (le8 pr).length = 8 := leN_len _ _
  simp only [Except.ok.injEq, Prod.mk.injEq, true_and, List.length_append, e8]
  omega

theorem of_op (o : Oo) (h : opOk o = true) (hp : o.pr < 18446744073709551616) : ofOpR ⟨(opB o).toArray⟩ = .ok o := by
  have hl : (opB o).length ≤ 58 := by
    have h1 := ints_take_len o 5
    have e8 : (le8 o.pr).length = 8 := leN_len _ _
    unfold opB
    rw [List.length_append]
    have e5 : o.ints.take 5 = o.ints := rfl
    rw [e5] at h1
    omega
  unfold ofOpR
  rw [arr_size, if_neg (by omega), rdOp_there o h hp]
  simp only
  rw [if_neg (by omega)]
end Go.Proofs.YtladgfngddgnlaaGreatDoor

namespace Go.Proofs.YtladgfngddgnlaaGreatDoor
open Go.RowKit
set_option linter.unusedVariables false
set_option linter.unusedSimpArgs false

theorem run_store_float (P : Program) (w : World) (a : Addr) (k : FloatKind) (n : Nat) (m : Mode) : (store a (.float k n) m).run P w = stored P w a (.float k n) m := run_store P w a _ m rfl
attribute [go_sem] run_store_float
theorem wraps64 (n : Int) (h₀ : 0 ≤ n) (h₁ : n < 2 ^ 64) : IntKind.u64.wrap n = n := by rw [IntKind.wrap_u64]; omega
theorem or8 (m c k : Nat) (hk : k ≤ 7) (hm : m < 256 ^ k) (hc : c < 256) :
    bits .or .u64 (m : Int) (IntKind.u64.wrap (IntKind.u64.wrap (c : Int) * 2 ^ (8 * k))) = ((m + c * 256 ^ k : Nat) : Int) := by
  have hp : (256 : Nat) ^ k ≤ 256 ^ 7 := Nat.pow_le_pow_right (by decide) hk
  have h7 : (256 : Nat) ^ 7 = 72057594037927936 := by decide
  have hcm : c * 256 ^ k ≤ 255 * 256 ^ 7 := Nat.mul_le_mul (by omega) hp
  rw [wraps64 (c : Int) (by omega) (by omega)]
  have e2 : (c : Int) * 2 ^ (8 * k) = ((c * 256 ^ k : Nat) : Int) := by rw [pow256]; simp
  rw [e2, wraps64 _ (by omega) (by omega), (bits_nat .u64 64 (by decide) wraps64 m _ (by omega) (by omega)).2, Nat.or_comm]
  have hmod : (c * 256 ^ k) % 2 ^ (8 * k) = 0 := by rw [pow256]; exact Nat.mul_mod_left _ _
  rw [nat_join (8 * k) _ m hmod (by rw [← pow256]; exact hm)]
  congr 1; omega

set_option maxRecDepth 100000 in
set_option maxHeartbeats 1000000 in
theorem price_calls (b : Nat) (s : ByteArray) (a : Nat) (w : World) (hr : Rdr w b s a) (hs : s.size ≤ maxLen) (ha : a ≤ s.size) :
    Calls Tryz.prog 79 #[.pointer (some ⟨b, 0, none⟩)] w (Reads (rd8 s a) (fun n => .float .f64 n) b s w) := by
  go_enter Tryz.func79, Tryz.ntmps79
  go_wp2
  go_loopw [3, 5] (fun n i w1 => ∃ k : Nat, k ≤ 8 ∧ i = .int .i64 k ∧ n = .int .u64 (leSum s a k) ∧ a + k ≤ s.size ∧ Off b w w1 ∧ Rdr w1 b s ((a + k : Nat) : Int)) (fun _ i _ => 8 - (intOf i).toNat)
  case atStart => exact ⟨0, Nat.zero_le _, rfl, rfl, by omega, Off.refl _ _, hr⟩
  case round =>
    obtain ⟨k, hk, rfl, rfl, hak, ho, hrd⟩ := hrel
    by_cases hk8 : k < 8
    · have hd : decide ((k : Int) < 8) = true := by simp only [decide_eq_true_eq]; omega
      by_cases hlt : a + k < s.size
      · have hnx := next_ok b s (a + k) wr hrd hs hlt
        have hba : byteAt s (a + k) = s[a + k].toNat := by unfold byteAt; rw [dif_pos hlt]
        rw [← hba] at hnx
        clear hba
        go_wp2_with fail
        refine hnx.mono ?_
        rintro e w1 ⟨rfl, ho1, hr1⟩
        go_wp2
        refine ⟨⟨k + 1, by omega, by go_num, ?_, by omega, ho.trans ho1, hr1⟩, by simp [intOf]; omega⟩
        rw [or8 _ _ k (by omega) (leSum_lt s a k) (byteAt_lt s _)]
        rfl
      · have hfin : Hid (rd8 s a = .error 10) := by show _ = _; unfold rd8; rw [if_pos (by omega)]
        go_wp2_with fail
        refine (next_short b s (a + k) _ hrd hlt).mono ?_
        rintro e w1 ⟨rfl, ho1⟩
        exact ⟨rfl, by unfold Reads; rw [hfin.out]; exact ⟨rfl, ho.trans ho1⟩⟩
    · have hd : decide ((k : Int) < 8) = false := by simp only [decide_eq_false_iff_not]; omega
      have e8 : k = 8 := by omega
      subst e8
      have hfin : Hid (rd8 s a = .ok (leSum s a 8, a + 8)) := by show _ = _; unfold rd8; rw [if_neg (by omega)]
      have hff := run_f64from (leSum s a 8)
      go_wp2
      go_ret
      unfold Reads
      rw [hfin.out]
      exact ⟨rfl, ho, hrd⟩

abbrev zOp : Obj := .cells #[.int .i64 0, .int .i64 0, .int .i64 0, .int .i64 0, .int .i64 0, .float .f64 0] 25


theorem opOut {wr : World} {k : Nat} {z0 z1 z2 z3 z4 z5 c0 c1 c2 c3 c4 c5 : Value} (Y : Blk wr k #[z0, z1, z2, z3, z4, z5] 25) : ∃ W, ((((((wr.setCell ⟨k, 0, none⟩ c0).setCell ⟨k, 1, none⟩ c1).setCell ⟨k, 2, none⟩ c2).setCell ⟨k, 3, none⟩ c3).setCell ⟨k, 4, none⟩ c4).setCell ⟨k, 5, none⟩ c5) = W ∧ Blk W k #[c0, c1, c2, c3, c4, c5] 25 ∧
    (∀ B w0, B ≤ k → Below B w0 wr → Below B w0 W) ∧ (∀ b s a, k ≠ b → Rdr wr b s a → Rdr W b s a) ∧ (∀ b (x : World), x.heap.size ≤ k → Off b x wr → Off b x W) ∧ (∀ j cs t, j ≠ k → Blk wr j cs t → Blk W j cs t) := by
  refine ⟨_, rfl, ?_, fun B w0 hB h => ?_, fun b s a hb h => ?_, fun b x hx h => ?_, fun j cs t hj h => ?_⟩
  · have hy := ((((((Y.set 0 c0).set 1 c1).set 2 c2).set 3 c3).set 4 c4).set 5 c5)
    simpa using hy
  · exact ((((((h.setCell (p := ⟨k, 0, none⟩) hB _).setCell (p := ⟨k, 1, none⟩) hB _).setCell (p := ⟨k, 2, none⟩) hB _).setCell (p := ⟨k, 3, none⟩) hB _).setCell (p := ⟨k, 4, none⟩) hB _).setCell (p := ⟨k, 5, none⟩) hB _)
  · exact ((((((h.setOther (p := ⟨k, 0, none⟩) hb _).setOther (p := ⟨k, 1, none⟩) hb _).setOther (p := ⟨k, 2, none⟩) hb _).setOther (p := ⟨k, 3, none⟩) hb _).setOther (p := ⟨k, 4, none⟩) hb _).setOther (p := ⟨k, 5, none⟩) hb _)
  · exact (Off.own (Off.own (Off.own (Off.own (Off.own (Off.own h (p := ⟨k, 0, none⟩) hx _) (p := ⟨k, 1, none⟩) hx _) (p := ⟨k, 2, none⟩) hx _) (p := ⟨k, 3, none⟩) hx _) (p := ⟨k, 4, none⟩) hx _) (p := ⟨k, 5, none⟩) hx _)
  · exact ((((((h.setOther (p := ⟨k, 0, none⟩) hj _).setOther (p := ⟨k, 1, none⟩) hj _).setOther (p := ⟨k, 2, none⟩) hj _).setOther (p := ⟨k, 3, none⟩) hj _).setOther (p := ⟨k, 4, none⟩) hj _).setOther (p := ⟨k, 5, none⟩) hj _)

set_option maxRecDepth 100000 in
set_option maxHeartbeats 2000000 in
theorem opRd_calls (b : Nat) (s : ByteArray) (a : Nat) (w : World) (hr : Rdr w b s a) (hs : s.size ≤ maxLen) (ha : a ≤ s.size) :
    Calls Tryz.prog 61 #[.pointer (some ⟨b, 0, none⟩)] w (Reads (rdOp s a) Oo.val b s w) := by
  have hb := hr.lt
  have hr0 := (hr.alloc zOp).alloc zOp
  have O0 := ((Off.refl b w).alloc zOp).alloc zOp
  have X0 := blk_new (w.alloc zOp) (w.heap.size + 1) #[.int .i64 0, .int .i64 0, .int .i64 0, .int .i64 0, .int .i64 0, .float .f64 0] 25 (by simp)
  have Y0 := (blk_new w w.heap.size #[.int .i64 0, .int .i64 0, .int .i64 0, .int .i64 0, .int .i64 0, .float .f64 0] 25 rfl).alloc zOp
  have hn := number_calls b s a _ hr0 hs ha
  go_enter Tryz.func61, Tryz.ntmps61
  go_wp2_with fail
  refine hn.mono ?_
  clear hn
  cases h0 : rdInt s a with
  | error er =>
    have hfin : Hid (rdOp s a = .error er) := by show _ = _; unfold rdOp; rw [h0]
    rintro e wx ⟨rfl, ho⟩
    exact ⟨rfl, by unfold Reads; rw [hfin.out]; exact ⟨rfl, O0.trans ho⟩⟩
  | ok q0 =>
  obtain ⟨n0, a1⟩ := q0
  have l0 := rdInt_le h0
  rintro e w0 ⟨rfl, ho0, hr0'⟩
  have XX0 := X0.off ho0 (by omega)
  have YY0 := Y0.off ho0 (by omega)
  have OO0 := O0.trans ho0
  have c0 := XX0.cell (o := 0) rfl
  have f0 := XX0.frozen (o := 0)
  obtain ⟨W0, hW0, X1, Y1, R1, O1⟩ : ∃ W, (w0.setCell ⟨w.heap.size + 1, 0, none⟩ (.int .i64 n0)) = W ∧ Blk W (w.heap.size + 1) #[.int .i64 n0, .int .i64 0, .int .i64 0, .int .i64 0, .int .i64 0, .float .f64 0] 25 ∧ Blk W w.heap.size #[.int .i64 0, .int .i64 0, .int .i64 0, .int .i64 0, .int .i64 0, .float .f64 0] 25 ∧ Rdr W b s a1 ∧ Off b w W := by
    refine ⟨_, rfl, ?_, ?_, ?_, ?_⟩
    · have hx := XX0.set 0 (.int .i64 n0)
      simpa using hx
    · exact YY0.setOther (p := ⟨w.heap.size + 1, 0, none⟩) (by simp) _
    · exact hr0'.setOther (p := ⟨w.heap.size + 1, 0, none⟩) (by simp; omega) _
    · exact Off.own OO0 (p := ⟨w.heap.size + 1, 0, none⟩) (by simp) _
  have hc := number_calls b s a1 W0 R1 hs l0.2.1
  go_wp2_with fail
  refine hc.mono ?_
  clear hW0 c0 f0 XX0 YY0 OO0 ho0 hr0' hc X0 Y0 O0
  cases h1 : rdInt s a1 with
  | error er =>
    have hfin : Hid (rdOp s a = .error er) := by show _ = _; unfold rdOp; rw [h0]; simp only [rdOp1]; rw [h1]
    rintro e wx ⟨rfl, ho⟩
    exact ⟨rfl, by unfold Reads; rw [hfin.out]; exact ⟨rfl, O1.trans ho⟩⟩
  | ok q1 =>
  obtain ⟨n1, a2⟩ := q1
  have l1 := rdInt_le h1
  rintro e w1 ⟨rfl, ho1, hr1'⟩
  have XX1 := X1.off ho1 (by omega)
  have YY1 := Y1.off ho1 (by omega)
  have OO1 := O1.trans ho1
  have c1 := XX1.cell (o := 1) rfl
  have f1 := XX1.frozen (o := 1)
  obtain ⟨W1, hW1, X2, Y2, R2, O2⟩ : ∃ W, (w1.setCell ⟨w.heap.size + 1, 1, none⟩ (.int .i64 n1)) = W ∧ Blk W (w.heap.size + 1) #[.int .i64 n0, .int .i64 n1, .int .i64 0, .int .i64 0, .int .i64 0, .float .f64 0] 25 ∧ Blk W w.heap.size #[.int .i64 0, .int .i64 0, .int .i64 0, .int .i64 0, .int .i64 0, .float .f64 0] 25 ∧ Rdr W b s a2 ∧ Off b w W := by
    refine ⟨_, rfl, ?_, ?_, ?_, ?_⟩
    · have hx := XX1.set 1 (.int .i64 n1)
      simpa using hx
    · exact YY1.setOther (p := ⟨w.heap.size + 1, 1, none⟩) (by simp) _
    · exact hr1'.setOther (p := ⟨w.heap.size + 1, 1, none⟩) (by simp; omega) _
    · exact Off.own OO1 (p := ⟨w.heap.size + 1, 1, none⟩) (by simp) _
  have hc := number_calls b s a2 W1 R2 hs l1.2.1
  go_wp2_with fail
  refine hc.mono ?_
  clear hW1 c1 f1 XX1 YY1 OO1 ho1 hr1' hc X1 Y1 O1 R1
  cases h2 : rdInt s a2 with
  | error er =>
    have hfin : Hid (rdOp s a = .error er) := by show _ = _; unfold rdOp; rw [h0]; simp only [rdOp1]; rw [h1]; simp only [rdOp2]; rw [h2]
    rintro e wx ⟨rfl, ho⟩
    exact ⟨rfl, by unfold Reads; rw [hfin.out]; exact ⟨rfl, O2.trans ho⟩⟩
  | ok q2 =>
  obtain ⟨n2, a3⟩ := q2
  have l2 := rdInt_le h2
  rintro e w2 ⟨rfl, ho2, hr2'⟩
  have XX2 := X2.off ho2 (by omega)
  have YY2 := Y2.off ho2 (by omega)
  have OO2 := O2.trans ho2
  have c2 := XX2.cell (o := 2) rfl
  have f2 := XX2.frozen (o := 2)
  obtain ⟨W2, hW2, X3, Y3, R3, O3⟩ : ∃ W, (w2.setCell ⟨w.heap.size + 1, 2, none⟩ (.int .i64 n2)) = W ∧ Blk W (w.heap.size + 1) #[.int .i64 n0, .int .i64 n1, .int .i64 n2, .int .i64 0, .int .i64 0, .float .f64 0] 25 ∧ Blk W w.heap.size #[.int .i64 0, .int .i64 0, .int .i64 0, .int .i64 0, .int .i64 0, .float .f64 0] 25 ∧ Rdr W b s a3 ∧ Off b w W := by
    refine ⟨_, rfl, ?_, ?_, ?_, ?_⟩
    · have hx := XX2.set 2 (.int .i64 n2)
      simpa using hx
    · exact YY2.setOther (p := ⟨w.heap.size + 1, 2, none⟩) (by simp) _
    · exact hr2'.setOther (p := ⟨w.heap.size + 1, 2, none⟩) (by simp; omega) _
    · exact Off.own OO2 (p := ⟨w.heap.size + 1, 2, none⟩) (by simp) _
  have hc := number_calls b s a3 W2 R3 hs l2.2.1
  go_wp2_with fail
  refine hc.mono ?_
  clear hW2 c2 f2 XX2 YY2 OO2 ho2 hr2' hc X2 Y2 O2 R2
  cases h3 : rdInt s a3 with
  | error er =>
    have hfin : Hid (rdOp s a = .error er) := by show _ = _; unfold rdOp; rw [h0]; simp only [rdOp1]; rw [h1]; simp only [rdOp2]; rw [h2]; simp only [rdOp3]; rw [h3]
    rintro e wx ⟨rfl, ho⟩
    exact ⟨rfl, by unfold Reads; rw [hfin.out]; exact ⟨rfl, O3.trans ho⟩⟩
  | ok q3 =>
  obtain ⟨n3, a4⟩ := q3
  have l3 := rdInt_le h3
  rintro e w3 ⟨rfl, ho3, hr3'⟩
  have XX3 := X3.off ho3 (by omega)
  have YY3 := Y3.off ho3 (by omega)
  have OO3 := O3.trans ho3
  have c3 := XX3.cell (o := 3) rfl
  have f3 := XX3.frozen (o := 3)
  obtain ⟨W3, hW3, X4, Y4, R4, O4⟩ : ∃ W, (w3.setCell ⟨w.heap.size + 1, 3, none⟩ (.int .i64 n3)) = W ∧ Blk W (w.heap.size + 1) #[.int .i64 n0, .int .i64 n1, .int .i64 n2, .int .i64 n3, .int .i64 0, .float .f64 0] 25 ∧ Blk W w.heap.size #[.int .i64 0, .int .i64 0, .int .i64 0, .int .i64 0, .int .i64 0, .float .f64 0] 25 ∧ Rdr W b s a4 ∧ Off b w W := by
    refine ⟨_, rfl, ?_, ?_, ?_, ?_⟩
    · have hx := XX3.set 3 (.int .i64 n3)
      simpa using hx
    · exact YY3.setOther (p := ⟨w.heap.size + 1, 3, none⟩) (by simp) _
    · exact hr3'.setOther (p := ⟨w.heap.size + 1, 3, none⟩) (by simp; omega) _
    · exact Off.own OO3 (p := ⟨w.heap.size + 1, 3, none⟩) (by simp) _
  have hc := number_calls b s a4 W3 R4 hs l3.2.1
  go_wp2_with fail
  refine hc.mono ?_
  clear hW3 c3 f3 XX3 YY3 OO3 ho3 hr3' hc X3 Y3 O3 R3
  cases h4 : rdInt s a4 with
  | error er =>
    have hfin : Hid (rdOp s a = .error er) := by show _ = _; unfold rdOp; rw [h0]; simp only [rdOp1]; rw [h1]; simp only [rdOp2]; rw [h2]; simp only [rdOp3]; rw [h3]; simp only [rdOp4]; rw [h4]
    rintro e wx ⟨rfl, ho⟩
    exact ⟨rfl, by unfold Reads; rw [hfin.out]; exact ⟨rfl, O4.trans ho⟩⟩
  | ok q4 =>
  obtain ⟨n4, a5⟩ := q4
  have l4 := rdInt_le h4
  rintro e w4 ⟨rfl, ho4, hr4'⟩
  have XX4 := X4.off ho4 (by omega)
  have YY4 := Y4.off ho4 (by omega)
  have OO4 := O4.trans ho4
  have c4 := XX4.cell (o := 4) rfl
  have f4 := XX4.frozen (o := 4)
  obtain ⟨W4, hW4, X5, Y5, R5, O5⟩ : ∃ W, (w4.setCell ⟨w.heap.size + 1, 4, none⟩ (.int .i64 n4)) = W ∧ Blk W (w.heap.size + 1) #[.int .i64 n0, .int .i64 n1, .int .i64 n2, .int .i64 n3, .int .i64 n4, .float .f64 0] 25 ∧ Blk W w.heap.size #[.int .i64 0, .int .i64 0, .int .i64 0, .int .i64 0, .int .i64 0, .float .f64 0] 25 ∧ Rdr W b s a5 ∧ Off b w W := by
    refine ⟨_, rfl, ?_, ?_, ?_, ?_⟩
    · have hx := XX4.set 4 (.int .i64 n4)
      simpa using hx
    · exact YY4.setOther (p := ⟨w.heap.size + 1, 4, none⟩) (by simp) _
    · exact hr4'.setOther (p := ⟨w.heap.size + 1, 4, none⟩) (by simp; omega) _
    · exact Off.own OO4 (p := ⟨w.heap.size + 1, 4, none⟩) (by simp) _
  have hc := price_calls b s a5 W4 R5 hs l4.2.1
  go_wp2_with fail
  refine hc.mono ?_
  clear hW4 c4 f4 XX4 YY4 OO4 ho4 hr4' hc X4 Y4 O4 R4
  cases h5 : rd8 s a5 with
  | error er =>
    have hfin : Hid (rdOp s a = .error er) := by show _ = _; unfold rdOp; rw [h0]; simp only [rdOp1]; rw [h1]; simp only [rdOp2]; rw [h2]; simp only [rdOp3]; rw [h3]; simp only [rdOp4]; rw [h4]; simp only [rdOp5]; rw [h5]
    rintro e wx ⟨rfl, ho⟩
    exact ⟨rfl, by unfold Reads; rw [hfin.out]; exact ⟨rfl, O5.trans ho⟩⟩
  | ok q5 =>
  obtain ⟨p, a6⟩ := q5
  have hfin : Hid (rdOp s a = .ok (⟨n0, n1, n2, n3, n4, p⟩, a6)) := by show _ = _; unfold rdOp; rw [h0]; simp only [rdOp1]; rw [h1]; simp only [rdOp2]; rw [h2]; simp only [rdOp3]; rw [h3]; simp only [rdOp4]; rw [h4]; simp only [rdOp5]; rw [h5]
  clear h0 h1 h2 h3 h4 h5
  rintro e w5 ⟨rfl, ho5, hr5⟩
  have XX := X5.off ho5 (by omega)
  have YY := Y5.off ho5 (by omega)
  have OO := O5.trans ho5
  have c5 := XX.cell (o := 5) rfl
  have f5 := XX.frozen (o := 5)
  obtain ⟨W5, hW5, X6, Y6, R6, O6⟩ : ∃ W, (w5.setCell ⟨w.heap.size + 1, 5, none⟩ (.float .f64 p)) = W ∧ Blk W (w.heap.size + 1) #[.int .i64 n0, .int .i64 n1, .int .i64 n2, .int .i64 n3, .int .i64 n4, .float .f64 p] 25 ∧ Blk W w.heap.size #[.int .i64 0, .int .i64 0, .int .i64 0, .int .i64 0, .int .i64 0, .float .f64 0] 25 ∧ Rdr W b s a6 ∧ Off b w W := by
    refine ⟨_, rfl, ?_, ?_, ?_, ?_⟩
    · have hx := XX.set 5 (.float .f64 p)
      simpa using hx
    · exact YY.setOther (p := ⟨w.heap.size + 1, 5, none⟩) (by simp) _
    · exact hr5.setOther (p := ⟨w.heap.size + 1, 5, none⟩) (by simp; omega) _
    · exact Off.own OO (p := ⟨w.heap.size + 1, 5, none⟩) (by simp) _
  have x0 := X6.cell (o := 0) rfl
  have y0 := Y6.cell (o := 0) rfl
  have g0 := Y6.frozen (o := 0)
  have x1 := X6.cell (o := 1) rfl
  have y1 := Y6.cell (o := 1) rfl
  have g1 := Y6.frozen (o := 1)
  have x2 := X6.cell (o := 2) rfl
  have y2 := Y6.cell (o := 2) rfl
  have g2 := Y6.frozen (o := 2)
  have x3 := X6.cell (o := 3) rfl
  have y3 := Y6.cell (o := 3) rfl
  have g3 := Y6.frozen (o := 3)
  have x4 := X6.cell (o := 4) rfl
  have y4 := Y6.cell (o := 4) rfl
  have g4 := Y6.frozen (o := 4)
  have x5 := X6.cell (o := 5) rfl
  have y5 := Y6.cell (o := 5) rfl
  have g5 := Y6.frozen (o := 5)
  go_wp2
  obtain ⟨WE, hWE, YE, _, hRE, hOE, _⟩ := opOut (c0 := .int .i64 n0) (c1 := .int .i64 n1) (c2 := .int .i64 n2) (c3 := .int .i64 n3) (c4 := .int .i64 n4) (c5 := .float .f64 p) Y6
  rw [hWE]
  have z0 := YE.cell (o := 0) rfl
  have z1 := YE.cell (o := 1) rfl
  have z2 := YE.cell (o := 2) rfl
  have z3 := YE.cell (o := 3) rfl
  have z4 := YE.cell (o := 4) rfl
  have z5 := YE.cell (o := 5) rfl
  refine bodyPost_ret (v := Oo.val ⟨n0, n1, n2, n3, n4, p⟩) (by simp [results, Tryz.results61, go_sem, Oo.val, z0, z1, z2, z3, z4, z5]) rfl ?_
  unfold Reads
  rw [hfin.out]
  exact ⟨rfl, hOE _ _ (Nat.le_refl _) O6, hRE _ _ _ (by omega) R6⟩
end Go.Proofs.YtladgfngddgnlaaGreatDoor
