/- Lengths of bytes. -/
import Derived.Test.YtpekfpfhonechaaGreatWa03
namespace Go.Proofs.YtpekfpfhonechaaGreat
theorem bytes_len (t : ByteArray) : t.data.toList.length = t.size := by rw [Array.length_toList]; rfl
theorem arr_size (l : List UInt8) : (⟨l.toArray⟩ : ByteArray).size = l.length := by
  show l.toArray.size = _; simp
open Go.RowKit in
theorem Off.own {b : Nat} {x w : World} (h : Off b x w) {p : Addr} (hp : x.heap.size ≤ p.block) (u : Value) : Off b x (w.setCell p u) :=
  ⟨h.os, h.tape, h.output, by simpa [World.setCell] using h.size, fun k hk hb => (Below.heap_setCell _ _ _ _ (by omega)).trans (h.block k hk hb)⟩
end Go.Proofs.YtpekfpfhonechaaGreat

namespace Go.Proofs.YtpekfpfhonechaaGreat
open Go.RowKit
set_option linter.unusedVariables false
set_option linter.unusedSimpArgs false

def leB (x i : Nat) : UInt8 := UInt8.ofNat (x / 256 ^ i % 256)
def leN (x k : Nat) : List UInt8 := (List.range k).map (leB x)
def le8 (x : Nat) : List UInt8 := leN x 8

theorem leN_succ (x k : Nat) : leN x (k + 1) = leN x k ++ [leB x k] := by simp [leN, List.range_succ]
theorem leB_nat (x i : Nat) : (leB x i).toNat = x / 256 ^ i % 256 := by simp [leB, UInt8.toNat_ofNat']

theorem pow256 (k : Nat) : (256 : Nat) ^ k = 2 ^ (8 * k) := by rw [Nat.pow_mul]
theorem leI (x k : Nat) : (x : Int) / 2 ^ (8 * k) % 256 = (x : Int) / 256 ^ k % 256 := by
  have e : (256 : Int) ^ k = 2 ^ (8 * k) := by rw [Int.pow_mul]; rfl
  rw [e]

theorem run_f64bits (b : Nat) (w : World) : (callFunc 43 #[.float .f64 b]).run Tryz.prog w = .ok (.value (.int .u64 b)) w := by kernel_rfl
theorem run_f64from (n : Nat) (w : World) : (callFunc 89 #[.int .u64 n]).run Tryz.prog w = .ok (.value (.float .f64 n)) w := by kernel_rfl

set_option maxRecDepth 100000 in
set_option maxHeartbeats 1000000 in
theorem layPrice_calls (base : Nat) (v : Value) (len : Nat) (xs : List Value) (pr : Nat) (w : World) (hp : pr < 18446744073709551616)
    (hown : w.ownsRow base 5 1 v len xs) (hlen : len ≤ 1000000000000) (hbase : base ≤ w.heap.size) :
    Calls Tryz.prog 32 #[v, .float .f64 pr] w fun e w' => ∃ v', e = .returned v' ∧ w'.ownsRow base 5 1 v' (len + 8) (xs ++ Lib.byteCells (le8 pr)) ∧ Below base w w' ∧ Kp w w' := by
  obtain ⟨i0, hi, hz0, hz1, hz2⟩ := info_parts infoByte
  have hfb := run_f64bits pr
  go_enter Tryz.func32, Tryz.ntmps32
  go_wp2
  go_loopw [0, 9] (fun o i wr => ∃ k : Nat, k ≤ 8 ∧ i = .int .i64 k ∧ wr.ownsRow base 5 1 o (len + k) (xs ++ Lib.byteCells (leN pr k)) ∧ Below base w wr ∧ Kp w wr) (fun _ i _ => 8 - (intOf i).toNat)
  case atStart => exact ⟨0, Nat.zero_le _, rfl, by simpa [leN, Lib.byteCells] using hown, Below.refl _ _, Kp.refl _⟩
  case round =>
    obtain ⟨k, hk, rfl, ho, hb, hkp⟩ := hrel
    have hz := hb.size
    by_cases hlt : k < 8
    · have hd : decide ((k : Int) < 8) = true := by simp only [decide_eq_true_eq]; omega
      have hle := leI pr k
      go_wp2_with (at_builtin; refine wpList_append_own _ rfl (.tmp 12) (.tmp 18) 85 rfl base 5 i0 (.int .u8 0) 1 1 Tryz.underlying85 hi hz0 hz1 hz2 rfl (by decide) _ _ _ rfl (ho.alloc _) ⟨wr.heap.size, 0, none⟩ 1 1 [.int .u8 ((pr : Int) / 256 ^ k % 256)] rfl rfl ?c1 ?c2 ?c3 ?c4 ?c5 ?_)
      case c1 => exact cell_one_new _ _ _
      case c2 => intro u hu; simp at hu; subst hu; rfl
      case c3 => unfold maxLen; omega
      case c4 => omega
      case c5 => simp; omega
      intro v' w1 hown' hgrow _
      clear hle
      go_wp2
      refine ⟨⟨k + 1, by omega, by go_num, ?_, ?_, (hkp.trans (Kp.of_below ((Below.refl _ _).alloc (Nat.le_refl _) _))).trans (Kp.of_grown hgrow (ho.alloc _))⟩, by simp [intOf]; omega⟩
      · rw [leN_succ, byteCells_snoc _ _ (leB_nat pr k)]
        simpa [Nat.add_assoc] using hown'
      · exact (hb.alloc (by omega) _).grown hgrow (by simp; omega) (fun k hk => (ho.lt k hk).1)
    · have hd : decide ((k : Int) < 8) = false := by simp only [decide_eq_false_iff_not]; omega
      have e8 : k = 8 := by omega
      subst e8
      go_wp2
      go_ret
      exact ⟨_, rfl, ho, hb, hkp⟩
end Go.Proofs.YtpekfpfhonechaaGreat

namespace Go.Proofs.YtpekfpfhonechaaGreat
open Go.RowKit
set_option linter.unusedVariables false
set_option linter.unusedSimpArgs false

structure Oo where
  k : Int
  g : Int
  a : Int
  d : Int
  i : Int
  pr : Nat

def Oo.val (o : Oo) : Value := .agg #[.int .i64 o.k, .int .i64 o.g, .int .i64 o.a, .int .i64 o.d, .int .i64 o.i, .float .f64 o.pr]
def Oo.ints (o : Oo) : List Int := [o.k, o.g, o.a, o.d, o.i]
def numOk (n : Int) : Bool := decide (0 ≤ n ∧ n ≤ 9007199254740992)
def encI (n : Int) : List UInt8 := enc n.toNat
def opOk (o : Oo) : Bool := o.ints.all numOk
def opB (o : Oo) : List UInt8 := o.ints.flatMap encI ++ le8 o.pr
def opR (o : Oo) : Array Value := if opOk o = true then #[.string ⟨(opB o).toArray⟩, .int .i64 0] else #[.string ⟨#[]⟩, .int .i64 14]

theorem isNumber_callsO (n : Int) (w : World) :
    Calls Tryz.prog 30 #[.int .i64 n] w fun e w' => e = .returned (.bool (numOk n)) ∧ w' = w := by
  go_enter Tryz.func30, Tryz.ntmps30
  go_wp2_with fail
  refine (within_calls n 9007199254740992 w).mono ?_
  rintro e w1 ⟨rfl, rfl⟩
  go_wp2
  go_ret
  exact ⟨by simp [numOk], rfl⟩

theorem ints_len (o : Oo) : o.ints.length = 5 := rfl
theorem run_ints (o : Oo) (j : Nat) (h : j < o.ints.length) (w : World) : (Instr.index 93 (.agg #[.int .i64 o.k, .int .i64 o.g, .int .i64 o.a, .int .i64 o.d, .int .i64 o.i]) (.int .i64 (j : Int))).run Tryz.prog w = .ok (.int .i64 o.ints[j]) w := by
  obtain rfl | rfl | rfl | rfl | rfl : j = 0 ∨ j = 1 ∨ j = 2 ∨ j = 3 ∨ j = 4 := by rw [ints_len] at h; omega
  · kernel_rfl
  · kernel_rfl
  · kernel_rfl
  · kernel_rfl
  · kernel_rfl

theorem all_split {α : Type} (f : α → Bool) (l : List α) (k : Nat) (h : k < l.length) : l.all f = ((l.take k).all f && (f l[k] && (l.drop (k + 1)).all f)) := by
  have e : l.take k ++ (l[k] :: l.drop (k + 1)) = l := by rw [← List.drop_eq_getElem_cons h, List.take_append_drop]
  rw [← List.all_cons, ← List.all_append, e]
theorem leN_len (x k : Nat) : (leN x k).length = k := by simp [leN]
theorem ints_take_len (o : Oo) (j : Nat) : ((o.ints.take j).flatMap encI).length ≤ 50 := by
  have h1 : ∀ (l : List Int), (l.flatMap encI).length ≤ 10 * l.length := by
    intro l
    induction l with
    | nil => simp
    | cons x l ih =>
      have e := enc_le x.toNat
      rw [List.flatMap_cons, List.length_append, List.length_cons]
      unfold encI at *
      omega
  have h2 := h1 (o.ints.take j)
  have h3 : (o.ints.take j).length ≤ 5 := by rw [List.length_take, ints_len]; omega
  omega

set_option maxRecDepth 100000 in
set_option maxHeartbeats 1000000 in
theorem putOp_calls (o : Oo) (w : World) (hp : o.pr < 18446744073709551616) :
    Calls Tryz.prog 19 #[o.val] w fun e w' => e = .returned (.tuple (opR o)) ∧ Below w.heap.size w w' := by
  have hnot : ∀ (x : Bool) (w : World), (Op.unary .not (.bool x)).run Tryz.prog w = .ok (.bool (!x)) w := fun _ _ => rfl
  have X0 := blk_new w w.heap.size #[.int .i64 o.k, .int .i64 o.g, .int .i64 o.a, .int .i64 o.d, .int .i64 o.i, .float .f64 o.pr] 39 rfl
  have hB0 : Below w.heap.size w (w.alloc (.cells #[.int .i64 o.k, .int .i64 o.g, .int .i64 o.a, .int .i64 o.d, .int .i64 o.i, .float .f64 o.pr] 39)) := by go_grown
  unfold Oo.val
  go_enter Tryz.func19, Tryz.ntmps19
  go_wp2
  go_loopw [4, 18] (fun ov i wr => ∃ k : Nat, k ≤ 5 ∧ i = .int .i64 k ∧ Hid ((o.ints.take k).all numOk = true) ∧ wr.ownsRow (w.heap.size + 1) 5 1 ov ((o.ints.take k).flatMap encI).length (Lib.byteCells ((o.ints.take k).flatMap encI)) ∧ Below (w.heap.size + 1) (w.alloc (.cells #[.int .i64 o.k, .int .i64 o.g, .int .i64 o.a, .int .i64 o.d, .int .i64 o.i, .float .f64 o.pr] 39)) wr) (fun _ i _ => 5 - (intOf i).toNat)
  case atStart => exact ⟨0, Nat.zero_le _, rfl, by show _ = _; simp, by simpa [Lib.byteCells] using World.ownsRow_nil _ _ _ _, Below.refl _ _⟩
  case round =>
    obtain ⟨k, hk, rfl, hall, ho, hb⟩ := hrel
    have hz := hb.size
    simp only [World.alloc, Array.size_push] at hz
    have hbw : Below w.heap.size w wr := hB0.trans (hb.mono (by omega))
    by_cases hlt : k < 5
    · have hd : decide ((k : Int) < 5) = true := by simp only [decide_eq_true_eq]; omega
      have hkl : k < o.ints.length := by rw [ints_len]; exact hlt
      have hix := run_ints o k hkl
      have hkn : Hid (opOk o = ((o.ints.take k).all numOk && (numOk o.ints[k] && (o.ints.drop (k + 1)).all numOk))) := all_split numOk o.ints k hkl
      have htk : Hid (o.ints.take (k + 1) = o.ints.take k ++ [o.ints[k]]) := List.take_succ_eq_append_getElem hkl
      have htl := ints_take_len o k
      generalize o.ints[k] = n at hix hkn htk
      have hin := fun wx => isNumber_callsO n wx
      have HI : Hid _ := hin
      clear hin
      cases hn : numOk n with
      | false =>
        have hfin : Hid (opR o = #[.string ⟨#[]⟩, .int .i64 14]) := by
          show _ = _
          unfold opR
          rw [if_neg (by rw [hkn.out, hn]; simp)]
        rw [hn] at HI
        go_wp2_with fail
        refine (HI.out _).mono ?_
        rintro e w1 ⟨rfl, rfl⟩
        go_wp2
        go_ret2
        exact ⟨by rw [hfin.out]; rfl, hbw⟩
      | true =>
        have hn2 : 0 ≤ n ∧ n ≤ 9007199254740992 := of_decide_eq_true hn
        rw [hn] at HI
        obtain ⟨m, rfl⟩ := Int.eq_ofNat_of_zero_le hn2.1
        have hall2 : Hid ((o.ints.take (k + 1)).all numOk = true) := by show _ = _; rw [htk.out, List.all_append, hall.out]; simp [hn]
        have hB2 : Hid ((o.ints.take (k + 1)).flatMap encI = (o.ints.take k).flatMap encI ++ enc m) := by show _ = _; rw [htk.out, List.flatMap_append]; simp [encI]
        clear hn hall hkn htk
        generalize (o.ints.take k).flatMap encI = Z at *
        go_wp2_with fail
        refine (HI.out _).mono ?_
        rintro e w1 ⟨rfl, rfl⟩
        go_wp2_with fail
        refine (layInt_calls (w.heap.size + 1) _ _ _ m _ (by omega) ho (by omega) (by omega)).mono ?_
        rintro e w2 ⟨v2, rfl, o2, b2, k2⟩
        go_wp2
        go_roundw
        case rel =>
          refine ⟨k + 1, by omega, by go_num, hall2, ?_, hb.trans b2⟩
          rw [hB2.out, List.length_append, byteCells_append]
          exact o2
        case measure => simp [intOf]; omega
    · have hd : decide ((k : Int) < 5) = false := by simp only [decide_eq_false_iff_not]; omega
      have e5 : o.ints.take k = o.ints := List.take_of_length_le (by rw [ints_len]; omega)
      rw [e5] at ho hall
      have hfin : Hid (opR o = #[.string ⟨(opB o).toArray⟩, .int .i64 0]) := by
        show _ = _
        unfold opR
        rw [if_pos (show opOk o = true from hall.out)]
      have htl := ints_take_len o k
      rw [e5] at htl
      have X1 := (hb.block w.heap.size (by omega)).trans X0
      have cO : ∀ {w : World} {k o : Nat} {cs : Array Value} {t : TypeId} {fr : Nat × Nat} {v : Value}, w.heap[k]? = some (.cells cs t fr) → cs[o]? = some v → w.cell? ⟨k, o, none⟩ = some v := fun h hv => by simp [World.cell?, h, hv]
      have c5 := cO (o := 5) X1 rfl
      clear cO
      clear e5 hall
      go_wp2_with fail
      refine (layPrice_calls (w.heap.size + 1) _ _ _ o.pr wr hp ho (by omega) (by omega)).mono ?_
      rintro e w2 ⟨v2, rfl, o2, b2, _⟩
      have o3 : w2.ownsRow (w.heap.size + 1) 5 1 v2 (opB o).length (Lib.byteCells (opB o)) := by
        unfold opB
        rw [List.length_append, byteCells_append]
        have e8 : (le8 o.pr).length = 8 := leN_len _ _
        rw [e8]
        exact o2
      have hcv := own_convert o3
      clear o2
      go_wp2
      go_ret2
      exact ⟨by rw [hfin.out]; rfl, hB0.trans ((hb.trans b2).mono (by omega))⟩
end Go.Proofs.YtpekfpfhonechaaGreat

namespace Go.Proofs.YtpekfpfhonechaaGreat
open Go.RowKit
set_option linter.unusedVariables false
set_option linter.unusedSimpArgs false

def byteAt (s : ByteArray) (j : Nat) : Nat := if h : j < s.size then s[j].toNat else 0
def leSum (s : ByteArray) (a : Nat) : Nat → Nat
  | 0 => 0
  | k + 1 => leSum s a k + byteAt s (a + k) * 256 ^ k

theorem byteAt_lt (s : ByteArray) (j : Nat) : byteAt s j < 256 := by
  unfold byteAt
  split
  · exact UInt8.toNat_lt _
  · decide
theorem leSum_lt (s : ByteArray) (a : Nat) : ∀ k, leSum s a k < 256 ^ k
  | 0 => by simp [leSum]
  | k + 1 => by
    have h1 := leSum_lt s a k
    have h2 := byteAt_lt s (a + k)
    have h3 : byteAt s (a + k) * 256 ^ k ≤ 255 * 256 ^ k := Nat.mul_le_mul_right _ (by omega)
    simp only [leSum]
    rw [Nat.pow_succ]
    omega

def rd8 (s : ByteArray) (a : Nat) : Except Int (Nat × Nat) := if s.size < a + 8 then .error 10 else .ok (leSum s a 8, a + 8)
def rdOp5 (s : ByteArray) (n0 n1 n2 n3 n4 : Nat) (a : Nat) : Except Int (Oo × Nat) :=
  match rd8 s a with
  | .error e => .error e
  | .ok (p, nx) => .ok (⟨n0, n1, n2, n3, n4, p⟩, nx)
def rdOp4 (s : ByteArray) (n0 n1 n2 n3 : Nat) (a : Nat) : Except Int (Oo × Nat) :=
  match rdInt s a with
  | .error e => .error e
  | .ok (n, nx) => rdOp5 s n0 n1 n2 n3 n nx
def rdOp3 (s : ByteArray) (n0 n1 n2 : Nat) (a : Nat) : Except Int (Oo × Nat) :=
  match rdInt s a with
  | .error e => .error e
  | .ok (n, nx) => rdOp4 s n0 n1 n2 n nx
def rdOp2 (s : ByteArray) (n0 n1 : Nat) (a : Nat) : Except Int (Oo × Nat) :=
  match rdInt s a with
  | .error e => .error e
  | .ok (n, nx) => rdOp3 s n0 n1 n nx
def rdOp1 (s : ByteArray) (n0 : Nat) (a : Nat) : Except Int (Oo × Nat) :=
  match rdInt s a with
  | .error e => .error e
  | .ok (n, nx) => rdOp2 s n0 n nx
def rdOp (s : ByteArray) (a : Nat) : Except Int (Oo × Nat) :=
  match rdInt s a with
  | .error e => .error e
  | .ok (n, nx) => rdOp1 s n nx

def ofOpR (s : ByteArray) : Except Int Oo :=
  if 256 < s.size then .error 4
  else match rdOp s 0 with
    | .error e => .error e
    | .ok (o, nx) => if nx < s.size then .error 12 else .ok o

def leVal : List UInt8 → Nat
  | [] => 0
  | c :: l => c.toNat + 256 * leVal l
theorem leVal_snoc (l : List UInt8) (c : UInt8) : leVal (l ++ [c]) = leVal l + c.toNat * 256 ^ l.length := by
  induction l with
  | nil => simp [leVal]
  | cons x l ih =>
    simp only [List.cons_append, leVal, ih, List.length_cons, Nat.pow_succ, Nat.mul_add]
    have e : 256 * (c.toNat * 256 ^ l.length) = c.toNat * (256 ^ l.length * 256) := by
      rw [Nat.mul_left_comm, Nat.mul_comm 256]
    omega
theorem leVal_leN (x : Nat) : ∀ k, leVal (leN x k) = x % 256 ^ k
  | 0 => by simp [leN, leVal, Nat.mod_one]
  | k + 1 => by
    rw [leN_succ, leVal_snoc, leVal_leN x k, leB_nat, leN_len, Nat.pow_succ, Nat.mod_mul]
    rw [Nat.mul_comm (256 ^ k)]
theorem leSum_list (s : ByteArray) (a : Nat) : ∀ k, a + k ≤ s.size → leSum s a k = leVal ((s.data.toList.drop a).take k)
  | 0, _ => by simp [leSum, leVal]
  | k + 1, h => by
    have hk : k < (s.data.toList.drop a).length := by rw [List.length_drop, bytes_len]; omega
    have hlt : a + k < s.size := by omega
    rw [List.take_succ_eq_append_getElem hk, leVal_snoc, ← leSum_list s a k (by omega), List.length_take, Nat.min_eq_left (by omega)]
    simp only [leSum]
    unfold byteAt
    rw [dif_pos hlt]
    congr 2
    rw [List.getElem_drop]
    rfl

theorem rdInt_there (pre post : List UInt8) (m : Nat) (h : m ≤ 9007199254740992) : rdInt ⟨(pre ++ (enc m ++ post)).toArray⟩ pre.length = .ok (m, pre.length + (enc m).length) := by
  rw [rdInt_list]
  simp only [List.toList_toArray, List.drop_left]
  rw [rdP_enc0 m post h]
  rfl
theorem rd8_there (pre : List UInt8) (x : Nat) (h : x < 18446744073709551616) : rd8 ⟨(pre ++ le8 x).toArray⟩ pre.length = .ok (x, pre.length + 8) := by
  have hs : (⟨(pre ++ le8 x).toArray⟩ : ByteArray).size = pre.length + 8 := by rw [arr_size, List.length_append]; rfl
  unfold rd8
  rw [if_neg (by omega), leSum_list _ _ 8 (by omega)]
  simp only [List.toList_toArray, List.drop_left]
  have e : (le8 x).take 8 = le8 x := List.take_of_length_le (by show (leN x 8).length ≤ 8; rw [leN_len]; omega)
  rw [e, show le8 x = leN x 8 from rfl, leVal_leN, Nat.mod_eq_of_lt (by omega)]

theorem opOk_parts {o : Oo} (h : opOk o = true) : (0 ≤ o.k ∧ o.k ≤ 9007199254740992) ∧ (0 ≤ o.g ∧ o.g ≤ 9007199254740992) ∧ (0 ≤ o.a ∧ o.a ≤ 9007199254740992) ∧ (0 ≤ o.d ∧ o.d ≤ 9007199254740992) ∧ (0 ≤ o.i ∧ o.i ≤ 9007199254740992) := by
  simp only [opOk, Oo.ints, List.all_cons, List.all_nil, Bool.and_eq_true, numOk, decide_eq_true_eq] at h
  omega

theorem rdOp_there (o : Oo) (h : opOk o = true) (hp : o.pr < 18446744073709551616) : rdOp ⟨(opB o).toArray⟩ 0 = .ok (o, (opB o).length) := by
  obtain ⟨h0, h1, h2, h3, h4⟩ := opOk_parts h
  obtain ⟨k, g, a, d, i, pr⟩ := o
  simp only at h0 h1 h2 h3 h4 hp
  obtain ⟨n0, rfl⟩ := Int.eq_ofNat_of_zero_le h0.1
  obtain ⟨n1, rfl⟩ := Int.eq_ofNat_of_zero_le h1.1
  obtain ⟨n2, rfl⟩ := Int.eq_ofNat_of_zero_le h2.1
  obtain ⟨n3, rfl⟩ := Int.eq_ofNat_of_zero_le h3.1
  obtain ⟨n4, rfl⟩ := Int.eq_ofNat_of_zero_le h4.1
  have e : opB ⟨(n0 : Int), (n1 : Int), (n2 : Int), (n3 : Int), (n4 : Int), pr⟩ = enc n0 ++ (enc n1 ++ (enc n2 ++ (enc n3 ++ (enc n4 ++ le8 pr)))) := by simp [opB, Oo.ints, encI]
  rw [e]
  have s0 := rdInt_there [] (enc n1 ++ (enc n2 ++ (enc n3 ++ (enc n4 ++ le8 pr)))) n0 (by omega)
  have s1 := rdInt_there (enc n0) (enc n2 ++ (enc n3 ++ (enc n4 ++ le8 pr))) n1 (by omega)
  have s2 := rdInt_there (enc n0 ++ enc n1) (enc n3 ++ (enc n4 ++ le8 pr)) n2 (by omega)
  have s3 := rdInt_there (enc n0 ++ enc n1 ++ enc n2) (enc n4 ++ le8 pr) n3 (by omega)
  have s4 := rdInt_there (enc n0 ++ enc n1 ++ enc n2 ++ enc n3) (le8 pr) n4 (by omega)
  have s5 := rd8_there (enc n0 ++ enc n1 ++ enc n2 ++ enc n3 ++ enc n4) pr hp
  simp only [List.nil_append, List.length_nil, Nat.zero_add, List.append_assoc, List.length_append] at s0 s1 s2 s3 s4 s5
  simp only [← Nat.add_assoc] at s0 s1 s2 s3 s4 s5
  unfold rdOp
  rw [s0]
  simp only [rdOp1]
  rw [s1]
  simp only [rdOp2]
  rw [s2]
  simp only [rdOp3]
  rw [s3]
  simp only [rdOp4]
  rw [s4]
  simp only [rdOp5]
  rw [s5]
  have e8 : (le8 pr).length = 8 := leN_len _ _
  simp only [Except.ok.injEq, Prod.mk.injEq, true_and, List.length_append, e8]
  omega

theorem of_op (o : Oo) (h : opOk o = true) (hp : o.pr < 18446744073709551616) : ofOpR ⟨(opB o).toArray⟩ = .ok o := by
  have hl : (opB o).length ≤ 58 := by
    have h1 := ints_take_len o 5
    have e8 : (le8 o.pr).length = 8 := leN_len _ _
    unfold opB
    rw [List.length_append]
    have e5 : o.ints.take 5 = o.ints := rfl
    rw [e5] at h1
    omega
  unfold ofOpR
  rw [arr_size, if_neg (by omega), rdOp_there o h hp]
  simp only
  rw [if_neg (by omega)]
end Go.Proofs.YtpekfpfhonechaaGreat

namespace Go.Proofs.YtpekfpfhonechaaGreat
open Go.RowKit
set_option linter.unusedVariables false
set_option linter.unusedSimpArgs false

theorem run_store_float (P : Program) (w : World) (a : Addr) (k : FloatKind) (n : Nat) (m : Mode) : (store a (.float k n) m).run P w = stored P w a (.float k n) m := run_store P w a _ m rfl
attribute [go_sem] run_store_float
theorem wraps64 (n : Int) (h₀ : 0 ≤ n) (h₁ : n < 2 ^ 64) : IntKind.u64.wrap n = n := by rw [IntKind.wrap_u64]; omega
theorem or8 (m c k : Nat) (hk : k ≤ 7) (hm : m < 256 ^ k) (hc : c < 256) :
    bits .or .u64 (m : Int) (IntKind.u64.wrap (IntKind.u64.wrap (c : Int) * 2 ^ (8 * k))) = ((m + c * 256 ^ k : Nat) : Int) := by
  have hp : (256 : Nat) ^ k ≤ 256 ^ 7 := Nat.pow_le_pow_right (by decide) hk
  have h7 : (256 : Nat) ^ 7 = 72057594037927936 := by decide
  have hcm : c * 256 ^ k ≤ 255 * 256 ^ 7 := Nat.mul_le_mul (by omega) hp
  rw [wraps64 (c : Int) (by omega) (by omega)]
  have e2 : (c : Int) * 2 ^ (8 * k) = ((c * 256 ^ k : Nat) : Int) := by rw [pow256]; simp
  rw [e2, wraps64 _ (by omega) (by omega), (bits_nat .u64 64 (by decide) wraps64 m _ (by omega) (by omega)).2, Nat.or_comm]
  have hmod : (c * 256 ^ k) % 2 ^ (8 * k) = 0 := by rw [pow256]; exact Nat.mul_mod_left _ _
  rw [nat_join (8 * k) _ m hmod (by rw [← pow256]; exact hm)]
  congr 1; omega

set_option maxRecDepth 100000 in
set_option maxHeartbeats 1000000 in
theorem price_calls (b : Nat) (s : ByteArray) (a : Nat) (w : World) (hr : Rdr w b s a) (hs : s.size ≤ maxLen) (ha : a ≤ s.size) :
    Calls Tryz.prog 67 #[.pointer (some ⟨b, 0, none⟩)] w (Reads (rd8 s a) (fun n => .float .f64 n) b s w) := by
  go_enter Tryz.func67, Tryz.ntmps67
  go_wp2
  go_loopw [3, 5] (fun n i w1 => ∃ k : Nat, k ≤ 8 ∧ i = .int .i64 k ∧ n = .int .u64 (leSum s a k) ∧ a + k ≤ s.size ∧ Off b w w1 ∧ Rdr w1 b s ((a + k : Nat) : Int)) (fun _ i _ => 8 - (intOf i).toNat)
  case atStart => exact ⟨0, Nat.zero_le _, rfl, rfl, by omega, Off.refl _ _, hr⟩
  case round =>
    obtain ⟨k, hk, rfl, rfl, hak, ho, hrd⟩ := hrel
    by_cases hk8 : k < 8
    · have hd : decide ((k : Int) < 8) = true := by simp only [decide_eq_true_eq]; omega
      by_cases hlt : a + k < s.size
      · have hnx := next_ok b s (a + k) wr hrd hs hlt
        have hba : byteAt s (a + k) = s[a + k].toNat := by unfold byteAt; rw [dif_pos hlt]
        rw [← hba] at hnx
        clear hba
        go_wp2_with fail
        refine hnx.mono ?_
        rintro e w1 ⟨rfl, ho1, hr1⟩
        go_wp2
        refine ⟨⟨k + 1, by omega, by go_num, ?_, by omega, ho.trans ho1, hr1⟩, by simp [intOf]; omega⟩
        rw [or8 _ _ k (by omega) (leSum_lt s a k) (byteAt_lt s _)]
        rfl
      · have hfin : Hid (rd8 s a = .error 10) := by show _ = _; unfold rd8; rw [if_pos (by omega)]
        go_wp2_with fail
        refine (next_short b s (a + k) _ hrd hlt).mono ?_
        rintro e w1 ⟨rfl, ho1⟩
        exact ⟨rfl, by unfold Reads; rw [hfin.out]; exact ⟨rfl, ho.trans ho1⟩⟩
    · have hd : decide ((k : Int) < 8) = false := by simp only [decide_eq_false_iff_not]; omega
      have e8 : k = 8 := by omega
      subst e8
      have hfin : Hid (rd8 s a = .ok (leSum s a 8, a + 8)) := by show _ = _; unfold rd8; rw [if_neg (by omega)]
      have hff := run_f64from (leSum s a 8)
      go_wp2
      go_ret
      unfold Reads
      rw [hfin.out]
      exact ⟨rfl, ho, hrd⟩

abbrev zOp : Obj := .cells #[.int .i64 0, .int .i64 0, .int .i64 0, .int .i64 0, .int .i64 0, .float .f64 0] 39


theorem opOut {wr : World} {k : Nat} {z0 z1 z2 z3 z4 z5 c0 c1 c2 c3 c4 c5 : Value} (Y : Blk wr k #[z0, z1, z2, z3, z4, z5] 39) : ∃ W, ((((((wr.setCell ⟨k, 0, none⟩ c0).setCell ⟨k, 1, none⟩ c1).setCell ⟨k, 2, none⟩ c2).setCell ⟨k, 3, none⟩ c3).setCell ⟨k, 4, none⟩ c4).setCell ⟨k, 5, none⟩ c5) = W ∧ Blk W k #[c0, c1, c2, c3, c4, c5] 39 ∧
    (∀ B w0, B ≤ k → Below B w0 wr → Below B w0 W) ∧ (∀ b s a, k ≠ b → Rdr wr b s a → Rdr W b s a) ∧ (∀ b (x : World), x.heap.size ≤ k → Off b x wr → Off b x W) ∧ (∀ j cs t, j ≠ k → Blk wr j cs t → Blk W j cs t) := by
  refine ⟨_, rfl, ?_, fun B w0 hB h => ?_, fun b s a hb h => ?_, fun b x hx h => ?_, fun j cs t hj h => ?_⟩
  · have hy := ((((((Y.set 0 c0).set 1 c1).set 2 c2).set 3 c3).set 4 c4).set 5 c5)
    simpa using hy
  · exact ((((((h.setCell (p := ⟨k, 0, none⟩) hB _).setCell (p := ⟨k, 1, none⟩) hB _).setCell (p := ⟨k, 2, none⟩) hB _).setCell (p := ⟨k, 3, none⟩) hB _).setCell (p := ⟨k, 4, none⟩) hB _).setCell (p := ⟨k, 5, none⟩) hB _)
  · exact ((((((h.setOther (p := ⟨k, 0, none⟩) hb _).setOther (p := ⟨k, 1, none⟩) hb _).setOther (p := ⟨k, 2, none⟩) hb _).setOther (p := ⟨k, 3, none⟩) hb _).setOther (p := ⟨k, 4, none⟩) hb _).setOther (p := ⟨k, 5, none⟩) hb _)
  · exact (Off.own (Off.own (Off.own (Off.own (Off.own (Off.own h (p := ⟨k, 0, none⟩) hx _) (p := ⟨k, 1, none⟩) hx _) (p := ⟨k, 2, none⟩) hx _) (p := ⟨k, 3, none⟩) hx _) (p := ⟨k, 4, none⟩) hx _) (p := ⟨k, 5, none⟩) hx _)
  · exact ((((((h.setOther (p := ⟨k, 0, none⟩) hj _).setOther (p := ⟨k, 1, none⟩) hj _).setOther (p := ⟨k, 2, none⟩) hj _).setOther (p := ⟨k, 3, none⟩) hj _).setOther (p := ⟨k, 4, none⟩) hj _).setOther (p := ⟨k, 5, none⟩) hj _)

set_option maxRecDepth 100000 in
set_option maxHeartbeats 2000000 in
theorem opRd_calls (b : Nat) (s : ByteArray) (a : Nat) (w : World) (hr : Rdr w b s a) (hs : s.size ≤ maxLen) (ha : a ≤ s.size) :
    Calls Tryz.prog 52 #[.pointer (some ⟨b, 0, none⟩)] w (Reads (rdOp s a) Oo.val b s w) := by
  have hb := hr.lt
  have hr0 := (hr.alloc zOp).alloc zOp
  have O0 := ((Off.refl b w).alloc zOp).alloc zOp
  have X0 := blk_new (w.alloc zOp) (w.heap.size + 1) #[.int .i64 0, .int .i64 0, .int .i64 0, .int .i64 0, .int .i64 0, .float .f64 0] 39 (by simp)
  have Y0 := (blk_new w w.heap.size #[.int .i64 0, .int .i64 0, .int .i64 0, .int .i64 0, .int .i64 0, .float .f64 0] 39 rfl).alloc zOp
  have hn := number_calls b s a _ hr0 hs ha
  go_enter Tryz.func52, Tryz.ntmps52
  go_wp2_with fail
  refine hn.mono ?_
  clear hn
  cases h0 : rdInt s a with
  | error er =>
    have hfin : Hid (rdOp s a = .error er) := by show _ = _; unfold rdOp; rw [h0]
    rintro e wx ⟨rfl, ho⟩
    exact ⟨rfl, by unfold Reads; rw [hfin.out]; exact ⟨rfl, O0.trans ho⟩⟩
  | ok q0 =>
  obtain ⟨n0, a1⟩ := q0
  have l0 := rdInt_le h0
  rintro e w0 ⟨rfl, ho0, hr0'⟩
  have XX0 := X0.off ho0 (by omega)
  have YY0 := Y0.off ho0 (by omega)
  have OO0 := O0.trans ho0
  have c0 := XX0.cell (o := 0) rfl
  have f0 := XX0.frozen (o := 0)
  obtain ⟨W0, hW0, X1, Y1, R1, O1⟩ : ∃ W, (w0.setCell ⟨w.heap.size + 1, 0, none⟩ (.int .i64 n0)) = W ∧ Blk W (w.heap.size + 1) #[.int .i64 n0, .int .i64 0, .int .i64 0, .int .i64 0, .int .i64 0, .float .f64 0] 39 ∧ Blk W w.heap.size #[.int .i64 0, .int .i64 0, .int .i64 0, .int .i64 0, .int .i64 0, .float .f64 0] 39 ∧ Rdr W b s a1 ∧ Off b w W := by
    refine ⟨_, rfl, ?_, ?_, ?_, ?_⟩
    · have hx := XX0.set 0 (.int .i64 n0)
      simpa using hx
    · exact YY0.setOther (p := ⟨w.heap.size + 1, 0, none⟩) (by simp) _
    · exact hr0'.setOther (p := ⟨w.heap.size + 1, 0, none⟩) (by simp; omega) _
    · exact Off.own OO0 (p := ⟨w.heap.size + 1, 0, none⟩) (by simp) _
  have hc := number_calls b s a1 W0 R1 hs l0.2.1
  go_wp2_with fail
  refine hc.mono ?_
  clear hW0 c0 f0 XX0 YY0 OO0 ho0 hr0' hc X0 Y0 O0
  cases h1 : rdInt s a1 with
  | error er =>
    have hfin : Hid (rdOp s a = .error er) := by show _ = _; unfold rdOp; rw [h0]; simp only [rdOp1]; rw [h1]
    rintro e wx ⟨rfl, ho⟩
    exact ⟨rfl, by unfold Reads; rw [hfin.out]; exact ⟨rfl, O1.trans ho⟩⟩
  | ok q1 =>
  obtain ⟨n1, a2⟩ := q1
  have l1 := rdInt_le h1
  rintro e w1 ⟨rfl, ho1, hr1'⟩
  have XX1 := X1.off ho1 (by omega)
  have YY1 := Y1.off ho1 (by omega)
  have OO1 := O1.trans ho1
  have c1 := XX1.cell (o := 1) rfl
  have f1 := XX1.frozen (o := 1)
  obtain ⟨W1, hW1, X2, Y2, R2, O2⟩ : ∃ W, (w1.setCell ⟨w.heap.size + 1, 1, none⟩ (.int .i64 n1)) = W ∧ Blk W (w.heap.size + 1) #[.int .i64 n0, .int .i64 n1, .int .i64 0, .int .i64 0, .int .i64 0, .float .f64 0] 39 ∧ Blk W w.heap.size #[.int .i64 0, .int .i64 0, .int .i64 0, .int .i64 0, .int .i64 0, .float .f64 0] 39 ∧ Rdr W b s a2 ∧ Off b w W := by
    refine ⟨_, rfl, ?_, ?_, ?_, ?_⟩
    · have hx := XX1.set 1 (.int .i64 n1)
      simpa using hx
    · exact YY1.setOther (p := ⟨w.heap.size + 1, 1, none⟩) (by simp) _
    · exact hr1'.setOther (p := ⟨w.heap.size + 1, 1, none⟩) (by simp; omega) _
    · exact Off.own OO1 (p := ⟨w.heap.size + 1, 1, none⟩) (by simp) _
  have hc := number_calls b s a2 W1 R2 hs l1.2.1
  go_wp2_with fail
  refine hc.mono ?_
  clear hW1 c1 f1 XX1 YY1 OO1 ho1 hr1' hc X1 Y1 O1 R1
  cases h2 : rdInt s a2 with
  | error er =>
    have hfin : Hid (rdOp s a = .error er) := by show _ = _; unfold rdOp; rw [h0]; simp only [rdOp1]; rw [h1]; simp only [rdOp2]; rw [h2]
    rintro e wx ⟨rfl, ho⟩
    exact ⟨rfl, by unfold Reads; rw [hfin.out]; exact ⟨rfl, O2.trans ho⟩⟩
  | ok q2 =>
  obtain ⟨n2, a3⟩ := q2
  have l2 := rdInt_le h2
  rintro e w2 ⟨rfl, ho2, hr2'⟩
  have XX2 := X2.off ho2 (by omega)
  have YY2 := Y2.off ho2 (by omega)
  have OO2 := O2.trans ho2
  have c2 := XX2.cell (o := 2) rfl
  have f2 := XX2.frozen (o := 2)
  obtain ⟨W2, hW2, X3, Y3, R3, O3⟩ : ∃ W, (w2.setCell ⟨w.heap.size + 1, 2, none⟩ (.int .i64 n2)) = W ∧ Blk W (w.heap.size + 1) #[.int .i64 n0, .int .i64 n1, .int .i64 n2, .int .i64 0, .int .i64 0, .float .f64 0] 39 ∧ Blk W w.heap.size #[.int .i64 0, .int .i64 0, .int .i64 0, .int .i64 0, .int .i64 0, .float .f64 0] 39 ∧ Rdr W b s a3 ∧ Off b w W := by
    refine ⟨_, rfl, ?_, ?_, ?_, ?_⟩
    · have hx := XX2.set 2 (.int .i64 n2)
      simpa using hx
    · exact YY2.setOther (p := ⟨w.heap.size + 1, 2, none⟩) (by simp) _
    · exact hr2'.setOther (p := ⟨w.heap.size + 1, 2, none⟩) (by simp; omega) _
    · exact Off.own OO2 (p := ⟨w.heap.size + 1, 2, none⟩) (by simp) _
  have hc := number_calls b s a3 W2 R3 hs l2.2.1
  go_wp2_with fail
  refine hc.mono ?_
  clear hW2 c2 f2 XX2 YY2 OO2 ho2 hr2' hc X2 Y2 O2 R2
  cases h3 : rdInt s a3 with
  | error er =>
    have hfin : Hid (rdOp s a = .error er) := by show _ = _; unfold rdOp; rw [h0]; simp only [rdOp1]; rw [h1]; simp only [rdOp2]; rw [h2]; simp only [rdOp3]; rw [h3]
    rintro e wx ⟨rfl, ho⟩
    exact ⟨rfl, by unfold Reads; rw [hfin.out]; exact ⟨rfl, O3.trans ho⟩⟩
  | ok q3 =>
  obtain ⟨n3, a4⟩ := q3
  have l3 := rdInt_le h3
  rintro e w3 ⟨rfl, ho3, hr3'⟩
  have XX3 := X3.off ho3 (by omega)
  have YY3 := Y3.off ho3 (by omega)
  have OO3 := O3.trans ho3
  have c3 := XX3.cell (o := 3) rfl
  have f3 := XX3.frozen (o := 3)
  obtain ⟨W3, hW3, X4, Y4, R4, O4⟩ : ∃ W, (w3.setCell ⟨w.heap.size + 1, 3, none⟩ (.int .i64 n3)) = W ∧ Blk W (w.heap.size + 1) #[.int .i64 n0, .int .i64 n1, .int .i64 n2, .int .i64 n3, .int .i64 0, .float .f64 0] 39 ∧ Blk W w.heap.size #[.int .i64 0, .int .i64 0, .int .i64 0, .int .i64 0, .int .i64 0, .float .f64 0] 39 ∧ Rdr W b s a4 ∧ Off b w W := by
    refine ⟨_, rfl, ?_, ?_, ?_, ?_⟩
    · have hx := XX3.set 3 (.int .i64 n3)
      simpa using hx
    · exact YY3.setOther (p := ⟨w.heap.size + 1, 3, none⟩) (by simp) _
    · exact hr3'.setOther (p := ⟨w.heap.size + 1, 3, none⟩) (by simp; omega) _
    · exact Off.own OO3 (p := ⟨w.heap.size + 1, 3, none⟩) (by simp) _
  have hc := number_calls b s a4 W3 R4 hs l3.2.1
  go_wp2_with fail
  refine hc.mono ?_
  clear hW3 c3 f3 XX3 YY3 OO3 ho3 hr3' hc X3 Y3 O3 R3
  cases h4 : rdInt s a4 with
  | error er =>
    have hfin : Hid (rdOp s a = .error er) := by show _ = _; unfold rdOp; rw [h0]; simp only [rdOp1]; rw [h1]; simp only [rdOp2]; rw [h2]; simp only [rdOp3]; rw [h3]; simp only [rdOp4]; rw [h4]
    rintro e wx ⟨rfl, ho⟩
    exact ⟨rfl, by unfold Reads; rw [hfin.out]; exact ⟨rfl, O4.trans ho⟩⟩
  | ok q4 =>
  obtain ⟨n4, a5⟩ := q4
  have l4 := rdInt_le h4
  rintro e w4 ⟨rfl, ho4, hr4'⟩
  have XX4 := X4.off ho4 (by omega)
  have YY4 := Y4.off ho4 (by omega)
  have OO4 := O4.trans ho4
  have c4 := XX4.cell (o := 4) rfl
  have f4 := XX4.frozen (o := 4)
  obtain ⟨W4, hW4, X5, Y5, R5, O5⟩ : ∃ W, (w4.setCell ⟨w.heap.size + 1, 4, none⟩ (.int .i64 n4)) = W ∧ Blk W (w.heap.size + 1) #[.int .i64 n0, .int .i64 n1, .int .i64 n2, .int .i64 n3, .int .i64 n4, .float .f64 0] 39 ∧ Blk W w.heap.size #[.int .i64 0, .int .i64 0, .int .i64 0, .int .i64 0, .int .i64 0, .float .f64 0] 39 ∧ Rdr W b s a5 ∧ Off b w W := by
    refine ⟨_, rfl, ?_, ?_, ?_, ?_⟩
    · have hx := XX4.set 4 (.int .i64 n4)
      simpa using hx
    · exact YY4.setOther (p := ⟨w.heap.size + 1, 4, none⟩) (by simp) _
    · exact hr4'.setOther (p := ⟨w.heap.size + 1, 4, none⟩) (by simp; omega) _
    · exact Off.own OO4 (p := ⟨w.heap.size + 1, 4, none⟩) (by simp) _
  have hc := price_calls b s a5 W4 R5 hs l4.2.1
  go_wp2_with fail
  refine hc.mono ?_
  clear hW4 c4 f4 XX4 YY4 OO4 ho4 hr4' hc X4 Y4 O4 R4
  cases h5 : rd8 s a5 with
  | error er =>
    have hfin : Hid (rdOp s a = .error er) := by show _ = _; unfold rdOp; rw [h0]; simp only [rdOp1]; rw [h1]; simp only [rdOp2]; rw [h2]; simp only [rdOp3]; rw [h3]; simp only [rdOp4]; rw [h4]; simp only [rdOp5]; rw [h5]
    rintro e wx ⟨rfl, ho⟩
    exact ⟨rfl, by unfold Reads; rw [hfin.out]; exact ⟨rfl, O5.trans ho⟩⟩
  | ok q5 =>
  obtain ⟨p, a6⟩ := q5
  have hfin : Hid (rdOp s a = .ok (⟨n0, n1, n2, n3, n4, p⟩, a6)) := by show _ = _; unfold rdOp; rw [h0]; simp only [rdOp1]; rw [h1]; simp only [rdOp2]; rw [h2]; simp only [rdOp3]; rw [h3]; simp only [rdOp4]; rw [h4]; simp only [rdOp5]; rw [h5]
  clear h0 h1 h2 h3 h4 h5
  rintro e w5 ⟨rfl, ho5, hr5⟩
  have XX := X5.off ho5 (by omega)
  have YY := Y5.off ho5 (by omega)
  have OO := O5.trans ho5
  have c5 := XX.cell (o := 5) rfl
  have f5 := XX.frozen (o := 5)
  obtain ⟨W5, hW5, X6, Y6, R6, O6⟩ : ∃ W, (w5.setCell ⟨w.heap.size + 1, 5, none⟩ (.float .f64 p)) = W ∧ Blk W (w.heap.size + 1) #[.int .i64 n0, .int .i64 n1, .int .i64 n2, .int .i64 n3, .int .i64 n4, .float .f64 p] 39 ∧ Blk W w.heap.size #[.int .i64 0, .int .i64 0, .int .i64 0, .int .i64 0, .int .i64 0, .float .f64 0] 39 ∧ Rdr W b s a6 ∧ Off b w W := by
    refine ⟨_, rfl, ?_, ?_, ?_, ?_⟩
    · have hx := XX.set 5 (.float .f64 p)
      simpa using hx
    · exact YY.setOther (p := ⟨w.heap.size + 1, 5, none⟩) (by simp) _
    · exact hr5.setOther (p := ⟨w.heap.size + 1, 5, none⟩) (by simp; omega) _
    · exact Off.own OO (p := ⟨w.heap.size + 1, 5, none⟩) (by simp) _
  have x0 := X6.cell (o := 0) rfl
  have y0 := Y6.cell (o := 0) rfl
  have g0 := Y6.frozen (o := 0)
  have x1 := X6.cell (o := 1) rfl
  have y1 := Y6.cell (o := 1) rfl
  have g1 := Y6.frozen (o := 1)
  have x2 := X6.cell (o := 2) rfl
  have y2 := Y6.cell (o := 2) rfl
  have g2 := Y6.frozen (o := 2)
  have x3 := X6.cell (o := 3) rfl
  have y3 := Y6.cell (o := 3) rfl
  have g3 := Y6.frozen (o := 3)
  have x4 := X6.cell (o := 4) rfl
  have y4 := Y6.cell (o := 4) rfl
  have g4 := Y6.frozen (o := 4)
  have x5 := X6.cell (o := 5) rfl
  have y5 := Y6.cell (o := 5) rfl
  have g5 := Y6.frozen (o := 5)
  go_wp2
  obtain ⟨WE, hWE, YE, _, hRE, hOE, _⟩ := opOut (c0 := .int .i64 n0) (c1 := .int .i64 n1) (c2 := .int .i64 n2) (c3 := .int .i64 n3) (c4 := .int .i64 n4) (c5 := .float .f64 p) Y6
  rw [hWE]
  have z0 := YE.cell (o := 0) rfl
  have z1 := YE.cell (o := 1) rfl
  have z2 := YE.cell (o := 2) rfl
  have z3 := YE.cell (o := 3) rfl
  have z4 := YE.cell (o := 4) rfl
  have z5 := YE.cell (o := 5) rfl
  refine bodyPost_ret (v := Oo.val ⟨n0, n1, n2, n3, n4, p⟩) (by simp [results, Tryz.results52, go_sem, Oo.val, z0, z1, z2, z3, z4, z5]) rfl ?_
  unfold Reads
  rw [hfin.out]
  exact ⟨rfl, hOE _ _ (Nat.le_refl _) O6, hRE _ _ _ (by omega) R6⟩
end Go.Proofs.YtpekfpfhonechaaGreat

namespace Go.Proofs.YtpekfpfhonechaaGreat
open Go.RowKit
set_option linter.unusedVariables false
set_option linter.unusedSimpArgs false

set_option maxRecDepth 100000 in
set_option maxHeartbeats 1000000 in
theorem ofOp1_panicking (b : Nat) (c0 c1 c2 c3 c4 c5 : Value) (z e0 : Int) (w : World) (X : Blk w b #[c0, c1, c2, c3, c4, c5] 39) (Y : Blk w (b + 1) #[.int .i64 z] 53) :
    CallsD Tryz.prog 49 #[.pointer (some ⟨b, 0, none⟩), .pointer (some ⟨b + 1, 0, none⟩)] (.panicking (gu e0)) w fun e u' w' =>
      e = .returned (.tuple #[]) ∧ u' = .panicking [{ v := .iface 132 (.agg #[.int .i64 e0]), recovered := true }] ∧ Below b w w' ∧
      Blk w' b #[.int .i64 0, .int .i64 0, .int .i64 0, .int .i64 0, .int .i64 0, .float .f64 0] 39 ∧ Blk w' (b + 1) #[.int .i64 e0] 53 := by
  refine callsD_of_wpS Tryz.func49 rfl fun c₀ cs hu => ?_
  apply wpS_seq
  apply wpS_region
  simp [wpOpsS, go_sem, recoverD, hu, gu, Tryz.ntmps49, Exit.thenS]
  show Code.wpS Tryz.prog _ _ { tmps := #[Value.pointer (some ⟨b, 0, none⟩), Value.pointer (some ⟨b + 1, 0, none⟩), .iface 132 (.agg #[.int .i64 e0]), .iface 132 (.agg #[.int .i64 e0]), undef, undef, undef, undef, undef], defers := [] } _ _
  refine wpS_of_wp ?_
  go_wp2_with fail
  refine (reason_calls e0 w).mono ?_
  rintro e w1 ⟨rfl, hb1⟩
  have X1 := X.below hb1
  have Y1 := Y.below hb1
  have hlt := X.lt
  have d0 := X1.cell (o := 0) rfl
  have f0 := X1.frozen (o := 0)
  have d1 := X1.cell (o := 1) rfl
  have f1 := X1.frozen (o := 1)
  have d2 := X1.cell (o := 2) rfl
  have f2 := X1.frozen (o := 2)
  have d3 := X1.cell (o := 3) rfl
  have f3 := X1.frozen (o := 3)
  have d4 := X1.cell (o := 4) rfl
  have f4 := X1.frozen (o := 4)
  have d5 := X1.cell (o := 5) rfl
  have f5 := X1.frozen (o := 5)
  have y0 := Y1.cell (o := 0) rfl
  have g0 := Y1.frozen (o := 0)
  go_wp2
  obtain ⟨W, hW, XW, hBW, _, _, hK⟩ := opOut (c0 := .int .i64 0) (c1 := .int .i64 0) (c2 := .int .i64 0) (c3 := .int .i64 0) (c4 := .int .i64 0) (c5 := .float .f64 0) X1
  rw [hW]
  have YW := hK (b + 1) _ _ (by omega) Y1
  refine ⟨rfl, _, rfl, .tuple #[], by simp [results, Tryz.results49], rfl, rfl, ?_, ?_, ?_⟩
  · exact (hBW b w (Nat.le_refl _) (hb1.mono (Nat.le_of_lt hlt))).setCell (p := ⟨b + 1, 0, none⟩) (by simp) _
  · exact XW.setOther (p := ⟨b + 1, 0, none⟩) (by simp) _
  · have hy := YW.set 0 (.int .i64 e0)
    simpa using hy

theorem ofOp1_idle (p q : Addr) (w : World) :
    CallsD Tryz.prog 49 #[.pointer (some p), .pointer (some q)] .returning w fun e u' w' => e = .returned (.tuple #[]) ∧ u' = .returning ∧ w' = w := by
  refine callsD_of_wpS Tryz.func49 rfl fun c₀ cs hu => ?_
  apply wpS_seq
  apply wpS_region
  simp [wpOpsS, go_sem, recoverD, hu, Tryz.ntmps49, Exit.thenS]
  show Code.wpS Tryz.prog _ _ { tmps := #[Value.pointer (some p), Value.pointer (some q), .nilIface, .nilIface, undef, undef, undef, undef, undef], defers := [] } _ _
  refine wpS_of_wp ?_
  go_wp2
  cases c₀
  simp_all [bodyPostS, results, Tryz.results49]

def zeroOo : Oo := ⟨0, 0, 0, 0, 0, 0⟩
/-- What a reading of a request answers. -/
def opAns (r : Except Int Oo) : Array Value :=
  match r with
  | .ok o => #[o.val, .int .i64 0]
  | .error er => #[zeroOo.val, .int .i64 er]

theorem opCaught {w w' : World} {er : Int} {o : Oo} (X : Blk w' w.heap.size #[.int .i64 o.k, .int .i64 o.g, .int .i64 o.a, .int .i64 o.d, .int .i64 o.i, .float .f64 o.pr] 39) (Y : Blk w' (w.heap.size + 1) #[.int .i64 er] 53) {t : Array Value} (h2 : t.getD 2 undef = .pointer (some ⟨w.heap.size, 0, none⟩)) (h3 : t.getD 3 undef = .pointer (some ⟨w.heap.size + 1, 0, none⟩)) :
    (results Tryz.f45 t).run Tryz.prog w' = .ok (.tuple #[o.val, .int .i64 er]) w' := by
  have a0 := X.cell (o := 0) rfl
  have a1 := X.cell (o := 1) rfl
  have a2 := X.cell (o := 2) rfl
  have a3 := X.cell (o := 3) rfl
  have a4 := X.cell (o := 4) rfl
  have a5 := X.cell (o := 5) rfl
  have y0 := Y.cell (o := 0) rfl
  simp only [Array.getD_eq_getD_getElem?] at h2 h3
  simp [results, Tryz.results45, go_sem, h2, h3, a0, a1, a2, a3, a4, a5, y0, Oo.val]

set_option maxRecDepth 100000 in
set_option maxHeartbeats 2000000 in
theorem ofOp_calls (s : ByteArray) (w : World) (hs : s.size ≤ maxLen) :
    Calls Tryz.prog 45 #[.string s] w fun e w' => e = .returned (.tuple (opAns (ofOpR s))) ∧ Below w.heap.size w w' := by
  have hmf : ∀ (fn : Fn) (first cap : Array Value) (w : World), (Instr.makeFunc fn first cap).run Tryz.prog w = .ok (.func fn first cap) w := fun _ _ _ _ => rfl
  have X0 := (blk_new w w.heap.size #[.int .i64 0, .int .i64 0, .int .i64 0, .int .i64 0, .int .i64 0, .float .f64 0] 39 rfl).alloc (.cells #[.int .i64 0] 53)
  have Y0 := blk_new (w.alloc zOp) (w.heap.size + 1) #[.int .i64 0] 53 (by simp)
  have B0 : Below w.heap.size w ((w.alloc zOp).alloc (.cells #[.int .i64 0] 53)) := by go_grown
  by_cases hbig : 256 < s.size
  · have hfin : Hid (ofOpR s = .error 4) := by show _ = _; unfold ofOpR; rw [if_pos hbig]
    go_enter_defers Tryz.func45, Tryz.ntmps45
    go_wp2_with fail
    refine (readerOf_bad s 256 _ (by omega)).mono ?_
    rintro e w1 ⟨rfl, rfl⟩
    refine leaves_cons (f := 49) (args := #[.pointer (some ⟨w.heap.size, 0, none⟩), .pointer (some ⟨w.heap.size + 1, 0, none⟩)]) (by simp) (by simp [go_sem]) ?_
    refine (ofOp1_panicking w.heap.size _ _ _ _ _ _ 0 4 _ X0 Y0).mono ?_
    rintro e u' w'' ⟨rfl, rfl, hbz, Xz, Yz⟩
    refine ⟨.tuple #[zeroOo.val, .int .i64 4], opCaught (o := zeroOo) Xz Yz rfl rfl, ?_⟩
    rw [hfin.out]
    exact ⟨rfl, (B0).trans hbz⟩
  · go_enter_defers Tryz.func45, Tryz.ntmps45
    go_wp2_with fail
    refine (readerOf_ok s 256 _ (by omega)).mono ?_
    rintro e w1 ⟨rfl, rfl⟩
    have R1 := rdr_new s 0 ((w.alloc zOp).alloc (.cells #[.int .i64 0] 53)) 136 (w.heap.size + 2) (by simp)
    have X1 := X0.alloc (.cells #[.string s, .int .i64 0] 136)
    have Y1 := Y0.alloc (.cells #[.string s, .int .i64 0] 136)
    have B1 := B0.alloc (by simp; omega) (.cells #[.string s, .int .i64 0] 136)
    clear X0 Y0 B0
    go_wp2_with fail
    refine (opRd_calls (w.heap.size + 2) s 0 _ R1 hs (Nat.zero_le _)).mono ?_
    cases hr : rdOp s 0 with
    | error er =>
      have hfin : Hid (ofOpR s = .error er) := by show _ = _; unfold ofOpR; rw [if_neg hbig, hr]
      rintro e w2 ⟨rfl, ho⟩
      refine leaves_cons (f := 49) (args := #[.pointer (some ⟨w.heap.size, 0, none⟩), .pointer (some ⟨w.heap.size + 1, 0, none⟩)]) (by simp) (by simp [go_sem]) ?_
      refine (ofOp1_panicking w.heap.size _ _ _ _ _ _ 0 er _ (X1.off ho (by omega)) (Y1.off ho (by omega))).mono ?_
      rintro e u' w'' ⟨rfl, rfl, hbz, Xz, Yz⟩
      refine ⟨.tuple #[zeroOo.val, .int .i64 er], opCaught (o := zeroOo) Xz Yz rfl rfl, ?_⟩
      rw [hfin.out]
      exact ⟨rfl, (ho.below (by omega) B1 (by simp; omega)).trans hbz⟩
    | ok p =>
      obtain ⟨o, nx⟩ := p
      rintro e w2 ⟨rfl, ho, R2⟩
      have X2 := X1.off ho (by omega)
      have Y2 := Y1.off ho (by omega)
      have B2 := ho.below (by omega) B1 (by simp; omega)
      have hz2 := ho.size
      simp at hz2
      have d0 := X2.cell (o := 0) rfl
      have f0 := X2.frozen (o := 0)
      have d1 := X2.cell (o := 1) rfl
      have f1 := X2.frozen (o := 1)
      have d2 := X2.cell (o := 2) rfl
      have f2 := X2.frozen (o := 2)
      have d3 := X2.cell (o := 3) rfl
      have f3 := X2.frozen (o := 3)
      have d4 := X2.cell (o := 4) rfl
      have f4 := X2.frozen (o := 4)
      have d5 := X2.cell (o := 5) rfl
      have f5 := X2.frozen (o := 5)
      unfold Oo.val
      go_wp2_with fail
      obtain ⟨W3, hW3, X3, hB3, hR3, _, hK3⟩ := opOut (c0 := .int .i64 o.k) (c1 := .int .i64 o.g) (c2 := .int .i64 o.a) (c3 := .int .i64 o.d) (c4 := .int .i64 o.i) (c5 := .float .f64 o.pr) X2
      have Y3 := hK3 (w.heap.size + 1) _ _ (by omega) Y2
      have R3 := hR3 _ _ _ (by omega) R2
      have B3 := hB3 _ _ (Nat.le_refl _) B2
      have Z3 := R3.lt
      rw [hW3]
      clear hW3 X2 Y2 R2 B2 X1 Y1 R1 B1 d0 f0 d1 f1 d2 f2 d3 f3 d4 f4 d5 f5 hB3 hR3 hK3
      refine (end_calls (w.heap.size + 2) s nx _ R3).mono ?_
      by_cases htail : nx < s.size
      · have hfin : Hid (ofOpR s = .error 12) := by show _ = _; unfold ofOpR; rw [if_neg hbig, hr]; simp only [htail, if_true]
        rintro e w4 ⟨h4, ho4, R4⟩
        rw [if_pos htail] at h4
        subst h4
        refine leaves_cons (f := 49) (args := #[.pointer (some ⟨w.heap.size, 0, none⟩), .pointer (some ⟨w.heap.size + 1, 0, none⟩)]) (by simp) (by simp [go_sem]) ?_
        refine (ofOp1_panicking w.heap.size _ _ _ _ _ _ 0 12 _ (X3.off ho4 (by omega)) (Y3.off ho4 (by omega))).mono ?_
        rintro e u' w'' ⟨rfl, rfl, hbz, Xz, Yz⟩
        refine ⟨.tuple #[zeroOo.val, .int .i64 12], opCaught (o := zeroOo) Xz Yz rfl rfl, ?_⟩
        rw [hfin.out]
        exact ⟨rfl, (ho4.below (by omega) B3 (by omega)).trans hbz⟩
      · have hfin : Hid (ofOpR s = .ok o) := by show _ = _; unfold ofOpR; rw [if_neg hbig, hr]; simp only [htail, if_false]
        rintro e w4 ⟨h4, ho4, R4⟩
        rw [if_neg htail] at h4
        subst h4
        have X5 := X3.off ho4 (by omega)
        have Y5 := Y3.off ho4 (by omega)
        have B5 := ho4.below (by omega) B3 (by omega)
        clear X3 Y3 B3 R3 R4
        have d0 := X5.cell (o := 0) rfl
        have f0 := X5.frozen (o := 0)
        have d1 := X5.cell (o := 1) rfl
        have f1 := X5.frozen (o := 1)
        have d2 := X5.cell (o := 2) rfl
        have f2 := X5.frozen (o := 2)
        have d3 := X5.cell (o := 3) rfl
        have f3 := X5.frozen (o := 3)
        have d4 := X5.cell (o := 4) rfl
        have f4 := X5.frozen (o := 4)
        have d5 := X5.cell (o := 5) rfl
        have f5 := X5.frozen (o := 5)
        have y0 := Y5.cell (o := 0) rfl
        have g0 := Y5.frozen (o := 0)
        go_wp2
        obtain ⟨W6, hW6, X6, hB6, _, _, hK6⟩ := opOut (c0 := .int .i64 o.k) (c1 := .int .i64 o.g) (c2 := .int .i64 o.a) (c3 := .int .i64 o.d) (c4 := .int .i64 o.i) (c5 := .float .f64 o.pr) X5
        have Y6 := (hK6 (w.heap.size + 1) _ _ (by omega) Y5).set 0 (.int .i64 0)
        simp only [List.setIfInBounds_toArray, List.set_cons_zero] at Y6
        have X7 := X6.setOther (p := ⟨w.heap.size + 1, 0, none⟩) (by simp) (.int .i64 0)
        have B7 := (hB6 _ _ (Nat.le_refl _) B5).setCell (p := ⟨w.heap.size + 1, 0, none⟩) (by simp) (.int .i64 0)
        rw [hW6]
        refine leaves_cons (f := 49) (args := #[.pointer (some ⟨w.heap.size, 0, none⟩), .pointer (some ⟨w.heap.size + 1, 0, none⟩)]) (by simp) (by simp [go_sem]) ?_
        refine (ofOp1_idle _ _ _).mono ?_
        rintro e u' w'' ⟨rfl, rfl, rfl⟩
        refine ⟨.tuple #[o.val, .int .i64 0], opCaught (o := o) X7 Y6 rfl rfl, ?_⟩
        rw [hfin.out]
        exact ⟨rfl, B7⟩
end Go.Proofs.YtpekfpfhonechaaGreat
