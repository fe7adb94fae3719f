/- Lengths of bytes. -/
import Derived.Test.YtpekfpfhonechaaGreatHw03
namespace Go.Proofs.YtpekfpfhonechaaGreat
theorem bytes_len (t : ByteArray) : t.data.toList.length = t.size := by rw [Array.length_toList]; rfl
theorem arr_size (l : List UInt8) : (⟨l.toArray⟩ : ByteArray).size = l.length := by
  show l.toArray.size = _; simp
open Go.RowKit in
theorem Off.own {b : Nat} {x w : World} (h : Off b x w) {p : Addr} (hp : x.heap.size ≤ p.block) (u : Value) : Off b x (w.setCell p u) :=
  ⟨h.os, h.tape, h.output, by simpa [World.setCell] using h.size, fun k hk hb => (Below.heap_setCell _ _ _ _ (by omega)).trans (h.block k hk hb)⟩
end Go.Proofs.YtpekfpfhonechaaGreat

namespace Go.Proofs.YtpekfpfhonechaaGreat
open Go.RowKit
set_option linter.unusedVariables false
set_option linter.unusedSimpArgs false

def leB (x i : Nat) : UInt8 := UInt8.ofNat (x / 256 ^ i % 256)
def leN (x k : Nat) : List UInt8 := (List.range k).map (leB x)
def le8 (x : Nat) : List UInt8 := leN x 8

theorem leN_succ (x k : Nat) : leN x (k + 1) = leN x k ++ [leB x k] := by simp [leN, List.range_succ]
theorem leB_nat (x i : Nat) : (leB x i).toNat = x / 256 ^ i % 256 := by simp [leB, UInt8.toNat_ofNat']

theorem pow256 (k : Nat) : (256 : Nat) ^ k = 2 ^ (8 * k) := by rw [Nat.pow_mul]
theorem leI (x k : Nat) : (x : Int) / 2 ^ (8 * k) % 256 = (x : Int) / 256 ^ k % 256 := by
  have e : (256 : Int) ^ k = 2 ^ (8 * k) := by rw [Int.pow_mul]; rfl
  rw [e]

theorem run_f64bits (b : Nat) (w : World) : (callFunc 43 #[.float .f64 b]).run Tryz.prog w = .ok (.value (.int .u64 b)) w := by kernel_rfl
theorem run_f64from (n : Nat) (w : World) : (callFunc 89 #[.int .u64 n]).run Tryz.prog w = .ok (.value (.float .f64 n)) w := by kernel_rfl

set_option maxRecDepth 100000 in
set_option maxHeartbeats 1000000 in
theorem layPrice_calls (base : Nat) (v : Value) (len : Nat) (xs : List Value) (pr : Nat) (w : World) (hp : pr < 18446744073709551616)
    (hown : w.ownsRow base 5 1 v len xs) (hlen : len ≤ 1000000000000) (hbase : base ≤ w.heap.size) :
    Calls Tryz.prog 32 #[v, .float .f64 pr] w fun e w' => ∃ v', e = .returned v' ∧ w'.ownsRow base 5 1 v' (len + 8) (xs ++ Lib.byteCells (le8 pr)) ∧ Below base w w' ∧ Kp w w' := by
  obtain ⟨i0, hi, hz0, hz1, hz2⟩ := info_parts infoByte
  have hfb := run_f64bits pr
  go_enter Tryz.func32, Tryz.ntmps32
  go_wp2
  go_loopw [0, 9] (fun o i wr => ∃ k : Nat, k ≤ 8 ∧ i = .int .i64 k ∧ wr.ownsRow base 5 1 o (len + k) (xs ++ Lib.byteCells (leN pr k)) ∧ Below base w wr ∧ Kp w wr) (fun _ i _ => 8 - (intOf i).toNat)
  case atStart => exact ⟨0, Nat.zero_le _, rfl, by simpa [leN, Lib.byteCells] using hown, Below.refl _ _, Kp.refl _⟩
  case round =>
    obtain ⟨k, hk, rfl, ho, hb, hkp⟩ := hrel
    have hz := hb.size
    by_cases hlt : k < 8
    · have hd : decide ((k : Int) < 8) = true := by simp only [decide_eq_true_eq]; omega
      have hle := leI pr k
      go_wp2_with (at_builtin; refine wpList_append_own _ rfl (.tmp 12) (.tmp 18) 85 rfl base 5 i0 (.int .u8 0) 1 1 Tryz.underlying85 hi hz0 hz1 hz2 rfl (by decide) _ _ _ rfl (ho.alloc _) ⟨wr.heap.size, 0, none⟩ 1 1 [.int .u8 ((pr : Int) / 256 ^ k % 256)] rfl rfl ?c1 ?c2 ?c3 ?c4 ?c5 ?_)
      case c1 => exact cell_one_new _ _ _
      case c2 => intro u hu; simp at hu; subst hu; rfl
      case c3 => unfold maxLen; omega
      case c4 => omega
      case c5 => simp; omega
      intro v' w1 hown' hgrow _
      clear hle
      go_wp2
      refine ⟨⟨k + 1, by omega, by go_num, ?_, ?_, (hkp.trans (Kp.of_below ((Below.refl _ _).alloc (Nat.le_refl _) _))).trans (Kp.of_grown hgrow (ho.alloc _))⟩, by simp [intOf]; omega⟩
      · rw [leN_succ, byteCells_snoc _ _ (leB_nat pr k)]
        simpa [Nat.add_assoc] using hown'
      · exact (hb.alloc (by omega) _).grown hgrow (by simp; omega) (fun k hk => (ho.lt k hk).1)
    · have hd : decide ((k : Int) < 8) = false := by simp only [decide_eq_false_iff_not]; omega
      have e8 : k = 8 := by omega
      subst e8
      go_wp2
      go_ret
      exact ⟨_, rfl, ho, hb, hkp⟩
end Go.Proofs.YtpekfpfhonechaaGreat

namespace Go.Proofs.YtpekfpfhonechaaGreat
open Go.RowKit
set_option linter.unusedVariables false
set_option linter.unusedSimpArgs false

structure Oo where
  k : Int
  g : Int
  a : Int
  d : Int
  i : Int
  pr : Nat

def Oo.val (o : Oo) : Value := .agg #[.int .i64 o.k, .int .i64 o.g, .int .i64 o.a, .int .i64 o.d, .int .i64 o.i, .float .f64 o.pr]
def Oo.ints (o : Oo) : List Int := [o.k, o.g, o.a, o.d, o.i]
def numOk (n : Int) : Bool := decide (0 ≤ n ∧ n ≤ 9007199254740992)
def encI (n : Int) : List UInt8 := enc n.toNat
def opOk (o : Oo) : Bool := o.ints.all numOk
def opB (o : Oo) : List UInt8 := o.ints.flatMap encI ++ le8 o.pr
def opR (o : Oo) : Array Value := if opOk o = true then #[.string ⟨(opB o).toArray⟩, .int .i64 0] else #[.string ⟨#[]⟩, .int .i64 14]

theorem isNumber_callsO (n : Int) (w : World) :
    Calls Tryz.prog 30 #[.int .i64 n] w fun e w' => e = .returned (.bool (numOk n)) ∧ w' = w := by
  go_enter Tryz.func30, Tryz.ntmps30
  go_wp2_with fail
  refine (within_calls n 9007199254740992 w).mono ?_
  rintro e w1 ⟨rfl, rfl⟩
  go_wp2
  go_ret
  exact ⟨by simp [numOk], rfl⟩

theorem ints_len (o : Oo) : o.ints.length = 5 := rfl
theorem run_ints (o : Oo) (j : Nat) (h : j < o.ints.length) (w : World) : (Instr.index 93 (.agg #[.int .i64 o.k, .int .i64 o.g, .int .i64 o.a, .int .i64 o.d, .int .i64 o.i]) (.int .i64 (j : Int))).run Tryz.prog w = .ok (.int .i64 o.ints[j]) w := by
  obtain rfl | rfl | rfl | rfl | rfl : j = 0 ∨ j = 1 ∨ j = 2 ∨ j = 3 ∨ j = 4 := by rw [ints_len] at h; omega
  · kernel_rfl
  · kernel_rfl
  · kernel_rfl
  · kernel_rfl
  · kernel_rfl

theorem all_split {α : Type} (f : α → Bool) (l : List α) (k : Nat) (h : k < l.length) : l.all f = ((l.take k).all f && (f l[k] && (l.drop (k + 1)).all f)) := by
  have e : l.take k ++ (l[k] :: l.drop (k + 1)) = l := by rw [← List.drop_eq_getElem_cons h, List.take_append_drop]
  rw [← List.all_cons, ← List.all_append, e]
theorem leN_len (x k : Nat) : (leN x k).length = k := by simp [leN]
theorem ints_take_len (o : Oo) (j : Nat) : ((o.ints.take j).flatMap encI).length ≤ 50 := by
  have h1 : ∀ (l : List Int), (l.flatMap encI).length ≤ 10 * l.length := by
    intro l
    induction l with
    | nil => simp
    | cons x l ih =>
      have e := enc_le x.toNat
      rw [List.flatMap_cons, List.length_append, List.length_cons]
      unfold encI at *
      omega
  have h2 := h1 (o.ints.take j)
  have h3 : (o.ints.take j).length ≤ 5 := by rw [List.length_take, ints_len]; omega
  omega

set_option maxRecDepth 100000 in
set_option maxHeartbeats 1000000 in
theorem putOp_calls (o : Oo) (w : World) (hp : o.pr < 18446744073709551616) :
    Calls Tryz.prog 19 #[o.val] w fun e w' => e = .returned (.tuple (opR o)) ∧ Below w.heap.size w w' := by
  have hnot : ∀ (x : Bool) (w : World), (Op.unary .not (.bool x)).run Tryz.prog w = .ok (.bool (!x)) w := fun _ _ => rfl
  have X0 := blk_new w w.heap.size #[.int .i64 o.k, .int .i64 o.g, .int .i64 o.a, .int .i64 o.d, .int .i64 o.i, .float .f64 o.pr] 39 rfl
  have hB0 : Below w.heap.size w (w.alloc (.cells #[.int .i64 o.k, .int .i64 o.g, .int .i64 o.a, .int .i64 o.d, .int .i64 o.i, .float .f64 o.pr] 39)) := by go_grown
  unfold Oo.val
  go_enter Tryz.func19, Tryz.ntmps19
  go_wp2
  go_loopw [4, 18] (fun ov i wr => ∃ k : Nat, k ≤ 5 ∧ i = .int .i64 k ∧ Hid ((o.ints.take k).all numOk = true) ∧ wr.ownsRow (w.heap.size + 1) 5 1 ov ((o.ints.take k).flatMap encI).length (Lib.byteCells ((o.ints.take k).flatMap encI)) ∧ Below (w.heap.size + 1) (w.alloc (.cells #[.int .i64 o.k, .int .i64 o.g, .int .i64 o.a, .int .i64 o.d, .int .i64 o.i, .float .f64 o.pr] 39)) wr) (fun _ i _ => 5 - (intOf i).toNat)
  case atStart => exact ⟨0, Nat.zero_le _, rfl, by show _ = _; simp, by simpa [Lib.byteCells] using World.ownsRow_nil _ _ _ _, Below.refl _ _⟩
  case round =>
    obtain ⟨k, hk, rfl, hall, ho, hb⟩ := hrel
    have hz := hb.size
    simp only [World.alloc, Array.size_push] at hz
    have hbw : Below w.heap.size w wr := hB0.trans (hb.mono (by omega))
    by_cases hlt : k < 5
    · have hd : decide ((k : Int) < 5) = true := by simp only [decide_eq_true_eq]; omega
      have hkl : k < o.ints.length := by rw [ints_len]; exact hlt
      have hix := run_ints o k hkl
      have hkn : Hid (opOk o = ((o.ints.take k).all numOk && (numOk o.ints[k] && (o.ints.drop (k + 1)).all numOk))) := all_split numOk o.ints k hkl
      have htk : Hid (o.ints.take (k + 1) = o.ints.take k ++ [o.ints[k]]) := List.take_succ_eq_append_getElem hkl
      have htl := ints_take_len o k
      generalize o.ints[k] = n at hix hkn htk
      have hin := fun wx => isNumber_callsO n wx
      have HI : Hid _ := hin
      clear hin
      cases hn : numOk n with
      | false =>
        have hfin : Hid (opR o = #[.string ⟨#[]⟩, .int .i64 14]) := by
          show _ = _
          unfold opR
          rw [if_neg (by rw [hkn.out, hn]; simp)]
        rw [hn] at HI
        go_wp2_with fail
        refine (HI.out _).mono ?_
        rintro e w1 ⟨rfl, rfl⟩
        go_wp2
        go_ret2
        exact ⟨by rw [hfin.out]; rfl, hbw⟩
      | true =>
        have hn2 : 0 ≤ n ∧ n ≤ 9007199254740992 := of_decide_eq_true hn
        rw [hn] at HI
        obtain ⟨m, rfl⟩ := Int.eq_ofNat_of_zero_le hn2.1
        have hall2 : Hid ((o.ints.take (k + 1)).all numOk = true) := by show _ = _; rw [htk.out, List.all_append, hall.out]; simp [hn]
        have hB2 : Hid ((o.ints.take (k + 1)).flatMap encI = (o.ints.take k).flatMap encI ++ enc m) := by show _ = _; rw [htk.out, List.flatMap_append]; simp [encI]
        clear hn hall hkn htk
        generalize (o.ints.take k).flatMap encI = Z at *
        go_wp2_with fail
        refine (HI.out _).mono ?_
        rintro e w1 ⟨rfl, rfl⟩
        go_wp2_with fail
        refine (layInt_calls (w.heap.size + 1) _ _ _ m _ (by omega) ho (by omega) (by omega)).mono ?_
        rintro e w2 ⟨v2, rfl, o2, b2, k2⟩
        go_wp2
        go_roundw
        case rel =>
          refine ⟨k + 1, by omega, by go_num, hall2, ?_, hb.trans b2⟩
          rw [hB2.out, List.length_append, byteCells_append]
          exact o2
        case measure => simp [intOf]; omega
    · have hd : decide ((k : Int) < 5) = false := by simp only [decide_eq_false_iff_not]; omega
      have e5 : o.ints.take k = o.ints := List.take_of_length_le (by rw [ints_len]; omega)
      rw [e5] at ho hall
      have hfin : Hid (opR o = #[.string ⟨(opB o).toArray⟩, .int .i64 0]) := by
        show _ = _
        unfold opR
        rw [if_pos (show opOk o = true from hall.out)]
      have htl := ints_take_len o k
      rw [e5] at htl
      have X1 := (hb.block w.heap.size (by omega)).trans X0
      have cO : ∀ {w : World} {k o : Nat} {cs : Array Value} {t : TypeId} {fr : Nat × Nat} {v : Value}, w.heap[k]? = some (.cells cs t fr) → cs[o]? = some v → w.cell? ⟨k, o, none⟩ = some v := fun h hv => by simp [World.cell?, h, hv]
      have c5 := cO (o := 5) X1 rfl
      clear cO
      clear e5 hall
      go_wp2_with fail
      refine (layPrice_calls (w.heap.size + 1) _ _ _ o.pr wr hp ho (by omega) (by omega)).mono ?_
      rintro e w2 ⟨v2, rfl, o2, b2, _⟩
      have o3 : w2.ownsRow (w.heap.size + 1) 5 1 v2 (opB o).length (Lib.byteCells (opB o)) := by
        unfold opB
        rw [List.length_append, byteCells_append]
        have e8 : (le8 o.pr).length = 8 := leN_len _ _
        rw [e8]
        exact o2
      have hcv := own_convert o3
      clear o2
      go_wp2
      go_ret2
      exact ⟨by rw [hfin.out]; rfl, hB0.trans ((hb.trans b2).mono (by omega))⟩
end Go.Proofs.YtpekfpfhonechaaGreat

namespace Go.Proofs.YtpekfpfhonechaaGreat
open Go.RowKit
set_option linter.unusedVariables false
set_option linter.unusedSimpArgs false

def byteAt (s : ByteArray) (j : Nat) : Nat := if h : j < s.size then s[j].toNat else 0
def leSum (s : ByteArray) (a : Nat) : Nat → Nat
  | 0 => 0
  | k + 1 => leSum s a k + byteAt s (a + k) * 256 ^ k

theorem byteAt_lt (s : ByteArray) (j : Nat) : byteAt s j < 256 := by
  unfold byteAt
  split
  · exact UInt8.toNat_lt _
  · decide
theorem leSum_lt (s : ByteArray) (a : Nat) : ∀ k, leSum s a k < 256 ^ k
  | 0 => by simp [leSum]
  | k + 1 => by
    have h1 := leSum_lt s a k
    have h2 := byteAt_lt s (a + k)
    have h3 : byteAt s (a + k) * 256 ^ k ≤ 255 * 256 ^ k := Nat.mul_le_mul_right _ (by omega)
    simp only [leSum]
    rw [Nat.pow_succ]
    omega

def rd8 (s : ByteArray) (a : Nat) : Except Int (Nat × Nat) := if s.size < a + 8 then .error 10 else .ok (leSum s a 8, a + 8)
def rdOp5 (s : ByteArray) (n0 n1 n2 n3 n4 : Nat) (a : Nat) : Except Int (Oo × Nat) :=
  match rd8 s a with
  | .error e => .error e
  | .ok (p, nx) => .ok (⟨n0, n1, n2, n3, n4, p⟩, nx)
def rdOp4 (s : ByteArray) (n0 n1 n2 n3 : Nat) (a : Nat) : Except Int (Oo × Nat) :=
  match rdInt s a with
  | .error e => .error e
  | .ok (n, nx) => rdOp5 s n0 n1 n2 n3 n nx
def rdOp3 (s : ByteArray) (n0 n1 n2 : Nat) (a : Nat) : Except Int (Oo × Nat) :=
  match rdInt s a with
  | .error e => .error e
  | .ok (n, nx) => rdOp4 s n0 n1 n2 n nx
def rdOp2 (s : ByteArray) (n0 n1 : Nat) (a : Nat) : Except Int (Oo × Nat) :=
  match rdInt s a with
  | .error e => .error e
  | .ok (n, nx) => rdOp3 s n0 n1 n nx
def rdOp1 (s : ByteArray) (n0 : Nat) (a : Nat) : Except Int (Oo × Nat) :=
  match rdInt s a with
  | .error e => .error e
  | .ok (n, nx) => rdOp2 s n0 n nx
def rdOp (s : ByteArray) (a : Nat) : Except Int (Oo × Nat) :=
  match rdInt s a with
  | .error e => .error e
  | .ok (n, nx) => rdOp1 s n nx

def ofOpR (s : ByteArray) : Except Int Oo :=
  if 256 < s.size then .error 4
  else match rdOp s 0 with
    | .error e => .error e
    | .ok (o, nx) => if nx < s.size then .error 12 else .ok o

def leVal : List UInt8 → Nat
  | [] => 0
  | c :: l => c.toNat + 256 * leVal l
theorem leVal_snoc (l : List UInt8) (c : UInt8) : leVal (l ++ [c]) = leVal l + c.toNat * 256 ^ l.length := by
  induction l with
  | nil => simp [leVal]
  | cons x l ih =>
    simp only [List.cons_append, leVal, ih, List.length_cons, Nat.pow_succ, Nat.mul_add]
    have e : 256 * (c.toNat * 256 ^ l.length) = c.toNat * (256 ^ l.length * 256) := by
      rw [Nat.mul_left_comm, Nat.mul_comm 256]
    omega
theorem leVal_leN (x : Nat) : ∀ k, leVal (leN x k) = x % 256 ^ k
  | 0 => by simp [leN, leVal, Nat.mod_one]
  | k + 1 => by
    rw [leN_succ, leVal_snoc, leVal_leN x k, leB_nat, leN_len, Nat.pow_succ, Nat.mod_mul]
    rw [Nat.mul_comm (256 ^ k)]
theorem leSum_list (s : ByteArray) (a : Nat) : ∀ k, a + k ≤ s.size → leSum s a k = leVal ((s.data.toList.drop a).take k)
  | 0, _ => by simp [leSum, leVal]
  | k + 1, h => by
    have hk : k < (s.data.toList.drop a).length := by rw [List.length_drop, bytes_len]; omega
    have hlt : a + k < s.size := by omega
    rw [List.take_succ_eq_append_getElem hk, leVal_snoc, ← leSum_list s a k (by omega), List.length_take, Nat.min_eq_left (by omega)]
    simp only [leSum]
    unfold byteAt
    rw [dif_pos hlt]
    congr 2
    rw [List.getElem_drop]
    rfl

theorem rdInt_there (pre post : List UInt8) (m : Nat) (h : m ≤ 9007199254740992) : rdInt ⟨(pre ++ (enc m ++ post)).toArray⟩ pre.length = .ok (m, pre.length + (enc m).length) := by
  rw [rdInt_list]
  simp only [List.toList_toArray, List.drop_left]
  rw [rdP_enc0 m post h]
  rfl
theorem rd8_there (pre : List UInt8) (x : Nat) (h : x < 18446744073709551616) : rd8 ⟨(pre ++ le8 x).toArray⟩ pre.length = .ok (x, pre.length + 8) := by
  have hs : (⟨(pre ++ le8 x).toArray⟩ : ByteArray).size = pre.length + 8 := by rw [arr_size, List.length_append]; rfl
  unfold rd8
  rw [if_neg (by omega), leSum_list _ _ 8 (by omega)]
  simp only [List.toList_toArray, List.drop_left]
  have e : (le8 x).take 8 = le8 x := List.take_of_length_le (by show (leN x 8).length ≤ 8; rw [leN_len]; omega)
  rw [e, show le8 x = leN x 8 from rfl, leVal_leN, Nat.mod_eq_of_lt (by omega)]

theorem opOk_parts {o : Oo} (h : opOk o = true) : (0 ≤ o.k ∧ o.k ≤ 9007199254740992) ∧ (0 ≤ o.g ∧ o.g ≤ 9007199254740992) ∧ (0 ≤ o.a ∧ o.a ≤ 9007199254740992) ∧ (0 ≤ o.d ∧ o.d ≤ 9007199254740992) ∧ (0 ≤ o.i ∧ o.i ≤ 9007199254740992) := by
  simp only [opOk, Oo.ints, List.all_cons, List.all_nil, Bool.and_eq_true, numOk, decide_eq_true_eq] at h
  omega

theorem rdOp_there (o : Oo) (h : opOk o = true) (hp : o.pr < 18446744073709551616) : rdOp ⟨(opB o).toArray⟩ 0 = .ok (o, (opB o).length) := by
  obtain ⟨h0, h1, h2, h3, h4⟩ := opOk_parts h
  obtain ⟨k, g, a, d, i, pr⟩ := o
  simp only at h0 h1 h2 h3 h4 hp
  obtain ⟨n0, rfl⟩ := Int.eq_ofNat_of_zero_le h0.1
  obtain ⟨n1, rfl⟩ := Int.eq_ofNat_of_zero_le h1.1
  obtain ⟨n2, rfl⟩ := Int.eq_ofNat_of_zero_le h2.1
  obtain ⟨n3, rfl⟩ := Int.eq_ofNat_of_zero_le h3.1
  obtain ⟨n4, rfl⟩ := Int.eq_ofNat_of_zero_le h4.1
  have e : opB ⟨(n0 : Int), (n1 : Int), (n2 : Int), (n3 : Int), (n4 : Int), pr⟩ = enc n0 ++ (enc n1 ++ (enc n2 ++ (enc n3 ++ (enc n4 ++ le8 pr)))) := by simp [opB, Oo.ints, encI]
  rw [e]
  have s0 := rdInt_there [] (enc n1 ++ (enc n2 ++ (enc n3 ++ (enc n4 ++ le8 pr)))) n0 (by omega)
  have s1 := rdInt_there (enc n0) (enc n2 ++ (enc n3 ++ (enc n4 ++ le8 pr))) n1 (by omega)
  have s2 := rdInt_there (enc n0 ++ enc n1) (enc n3 ++ (enc n4 ++ le8 pr)) n2 (by omega)
  have s3 := rdInt_there (enc n0 ++ enc n1 ++ enc n2) (enc n4 ++ le8 pr) n3 (by omega)
  have s4 := rdInt_there (enc n0 ++ enc n1 ++ enc n2 ++ enc n3) (le8 pr) n4 (by omega)
  have s5 := rd8_there (enc n0 ++ enc n1 ++ enc n2 ++ enc n3 ++ enc n4) pr hp
  simp only [List.nil_append, List.length_nil, Nat.zero_add, List.append_assoc, List.length_append] at s0 s1 s2 s3 s4 s5
  simp only [← Nat.add_assoc] at s0 s1 s2 s3 s4 s5
  unfold rdOp
  rw [s0]
  simp only [rdOp1]
  rw [s1]
  simp only [rdOp2]
  rw [s2]
  simp only [rdOp3]
  rw [s3]
  simp only [rdOp4]
  rw [s4]
  simp only [rdOp5]
  rw [s5]
  have e8 : (le8 pr).length = 8 := leN_len _ _
  simp only [Except.ok.injEq, Prod.mk.injEq, true_and, List.length_append, e8]
  omega

theorem of_op (o : Oo) (h : opOk o = true) (hp : o.pr < 18446744073709551616) : ofOpR ⟨(opB o).toArray⟩ = .ok o := by
  have hl : (opB o).length ≤ 58 := by
    have h1 := ints_take_len o 5
    have e8 : (le8 o.pr).length = 8 := leN_len _ _
    unfold opB
    rw [List.length_append]
    have e5 : o.ints.take 5 = o.ints := rfl
    rw [e5] at h1
    omega
  unfold ofOpR
  rw [arr_size, if_neg (by omega), rdOp_there o h hp]
  simp only
  rw [if_neg (by omega)]
end Go.Proofs.YtpekfpfhonechaaGreat
