/- PutOp: a request as bytes. -/
import Derived.Test.YtdaonkgcdheplaaOpA
namespace Go.Proofs.Ytdaonkgcdheplaa
open Go.RowKit
set_option linter.unusedVariables false
set_option linter.unusedSimpArgs false

structure Oo where
  k : Int
  g : Int
  a : Int
  d : Int
  i : Int
  pr : Nat

def Oo.val (o : Oo) : Value := .agg #[.int .i64 o.k, .int .i64 o.g, .int .i64 o.a, .int .i64 o.d, .int .i64 o.i, .float .f64 o.pr]
def Oo.ints (o : Oo) : List Int := [o.k, o.g, o.a, o.d, o.i]
def numOk (n : Int) : Bool := decide (0 ≤ n ∧ n ≤ 9007199254740992)
def encI (n : Int) : List UInt8 := enc n.toNat
def opOk (o : Oo) : Bool := o.ints.all numOk
def opB (o : Oo) : List UInt8 := o.ints.flatMap encI ++ le8 o.pr
def opR (o : Oo) : Array Value := if opOk o = true then #[.string ⟨(opB o).toArray⟩, .int .i64 0] else #[.string ⟨#[]⟩, .int .i64 14]

theorem isNumber_calls (n : Int) (w : World) :
    Calls Try.prog 46 #[.int .i64 n] w fun e w' => e = .returned (.bool (numOk n)) ∧ w' = w := by
  go_enter Try.func46, Try.ntmps46
  go_wp2_with fail
  refine (within_calls n 9007199254740992 w).mono ?_
  rintro e w1 ⟨rfl, rfl⟩
  go_wp2
  go_ret
  exact ⟨by simp [numOk], rfl⟩

theorem ints_len (o : Oo) : o.ints.length = 5 := rfl
theorem run_ints (o : Oo) (j : Nat) (h : j < o.ints.length) (w : World) : (Instr.index 79 (.agg #[.int .i64 o.k, .int .i64 o.g, .int .i64 o.a, .int .i64 o.d, .int .i64 o.i]) (.int .i64 (j : Int))).run Try.prog w = .ok (.int .i64 o.ints[j]) w := by
  obtain rfl | rfl | rfl | rfl | rfl : j = 0 ∨ j = 1 ∨ j = 2 ∨ j = 3 ∨ j = 4 := by rw [ints_len] at h; omega
  · kernel_rfl
  · kernel_rfl
  · kernel_rfl
  · kernel_rfl
  · kernel_rfl

theorem all_split {α : Type} (f : α → Bool) (l : List α) (k : Nat) (h : k < l.length) : l.all f = ((l.take k).all f && (f l[k] && (l.drop (k + 1)).all f)) := by
  have e : l.take k ++ (l[k] :: l.drop (k + 1)) = l := by rw [← List.drop_eq_getElem_cons h, List.take_append_drop]
  rw [← List.all_cons, ← List.all_append, e]
theorem leN_len (x k : Nat) : (leN x k).length = k := by simp [leN]
theorem ints_take_len (o : Oo) (j : Nat) : ((o.ints.take j).flatMap encI).length ≤ 50 := by
  have h1 : ∀ (l : List Int), (l.flatMap encI).length ≤ 10 * l.length := by
    intro l
    induction l with
    | nil => simp
    | cons x l ih =>
      have e := enc_le x.toNat
      rw [List.flatMap_cons, List.length_append, List.length_cons]
      unfold encI at *
      omega
  have h2 := h1 (o.ints.take j)
  have h3 : (o.ints.take j).length ≤ 5 := by rw [List.length_take, ints_len]; omega
  omega

set_option maxRecDepth 100000 in
set_option maxHeartbeats 1000000 in
theorem putOp_calls (o : Oo) (w : World) (hp : o.pr < 18446744073709551616) :
    Calls Try.prog 17 #[o.val] w fun e w' => e = .returned (.tuple (opR o)) ∧ Below w.heap.size w w' := by
  have hnot : ∀ (x : Bool) (w : World), (Op.unary .not (.bool x)).run Try.prog w = .ok (.bool (!x)) w := fun _ _ => rfl
  have X0 := blk_new w w.heap.size #[.int .i64 o.k, .int .i64 o.g, .int .i64 o.a, .int .i64 o.d, .int .i64 o.i, .float .f64 o.pr] 41 rfl
  have hB0 : Below w.heap.size w (w.alloc (.cells #[.int .i64 o.k, .int .i64 o.g, .int .i64 o.a, .int .i64 o.d, .int .i64 o.i, .float .f64 o.pr] 41)) := by go_grown
  unfold Oo.val
  go_enter Try.func17, Try.ntmps17
  go_wp2
  go_loopw [4, 18] (fun ov i wr => ∃ k : Nat, k ≤ 5 ∧ i = .int .i64 k ∧ Hid ((o.ints.take k).all numOk = true) ∧ wr.ownsRow (w.heap.size + 1) 5 1 ov ((o.ints.take k).flatMap encI).length (Lib.byteCells ((o.ints.take k).flatMap encI)) ∧ Below (w.heap.size + 1) (w.alloc (.cells #[.int .i64 o.k, .int .i64 o.g, .int .i64 o.a, .int .i64 o.d, .int .i64 o.i, .float .f64 o.pr] 41)) wr) (fun _ i _ => 5 - (intOf i).toNat)
  case atStart => exact ⟨0, Nat.zero_le _, rfl, by show _ = _; simp, by simpa [Lib.byteCells] using World.ownsRow_nil _ _ _ _, Below.refl _ _⟩
  case round =>
    obtain ⟨k, hk, rfl, hall, ho, hb⟩ := hrel
    have hz := hb.size
    simp only [World.alloc, Array.size_push] at hz
    have hbw : Below w.heap.size w wr := hB0.trans (hb.mono (by omega))
    by_cases hlt : k < 5
    · have hd : decide ((k : Int) < 5) = true := by simp only [decide_eq_true_eq]; omega
      have hkl : k < o.ints.length := by rw [ints_len]; exact hlt
      have hix := run_ints o k hkl
      have hkn : Hid (opOk o = ((o.ints.take k).all numOk && (numOk o.ints[k] && (o.ints.drop (k + 1)).all numOk))) := all_split numOk o.ints k hkl
      have htk : Hid (o.ints.take (k + 1) = o.ints.take k ++ [o.ints[k]]) := List.take_succ_eq_append_getElem hkl
      have htl := ints_take_len o k
      generalize o.ints[k] = n at hix hkn htk
      have hin := fun wx => isNumber_calls n wx
      have HI : Hid _ := hin
      clear hin
      cases hn : numOk n with
      | false =>
        have hfin : Hid (opR o = #[.string ⟨#[]⟩, .int .i64 14]) := by
          show _ = _
          unfold opR
          rw [if_neg (by rw [hkn.out, hn]; simp)]
        rw [hn] at HI
        go_wp2_with fail
        refine (HI.out _).mono ?_
        rintro e w1 ⟨rfl, rfl⟩
        go_wp2
        go_ret2
        exact ⟨by rw [hfin.out]; rfl, hbw⟩
      | true =>
        have hn2 : 0 ≤ n ∧ n ≤ 9007199254740992 := of_decide_eq_true hn
        rw [hn] at HI
        obtain ⟨m, rfl⟩ := Int.eq_ofNat_of_zero_le hn2.1
        have hall2 : Hid ((o.ints.take (k + 1)).all numOk = true) := by show _ = _; rw [htk.out, List.all_append, hall.out]; simp [hn]
        have hB2 : Hid ((o.ints.take (k + 1)).flatMap encI = (o.ints.take k).flatMap encI ++ enc m) := by show _ = _; rw [htk.out, List.flatMap_append]; simp [encI]
        clear hn hall hkn htk
        generalize (o.ints.take k).flatMap encI = Z at *
        go_wp2_with fail
        refine (HI.out _).mono ?_
        rintro e w1 ⟨rfl, rfl⟩
        go_wp2_with fail
        refine (layInt_calls (w.heap.size + 1) _ _ _ m _ (by omega) ho (by omega) (by omega)).mono ?_
        rintro e w2 ⟨v2, rfl, o2, b2, k2⟩
        go_wp2
        go_roundw
        case rel =>
          refine ⟨k + 1, by omega, by go_num, hall2, ?_, hb.trans b2⟩
          rw [hB2.out, List.length_append, byteCells_append]
          exact o2
        case measure => simp [intOf]; omega
    · have hd : decide ((k : Int) < 5) = false := by simp only [decide_eq_false_iff_not]; omega
      have e5 : o.ints.take k = o.ints := List.take_of_length_le (by rw [ints_len]; omega)
      rw [e5] at ho hall
      have hfin : Hid (opR o = #[.string ⟨(opB o).toArray⟩, .int .i64 0]) := by
        show _ = _
        unfold opR
        rw [if_pos (show opOk o = true from hall.out)]
      have htl := ints_take_len o k
      rw [e5] at htl
      have X1 := (hb.block w.heap.size (by omega)).trans X0
      have c5 := cellOf (o := 5) X1 rfl
      clear e5 hall
      go_wp2_with fail
      refine (layPrice_calls (w.heap.size + 1) _ _ _ o.pr wr hp ho (by omega) (by omega)).mono ?_
      rintro e w2 ⟨v2, rfl, o2, b2, _⟩
      have o3 : w2.ownsRow (w.heap.size + 1) 5 1 v2 (opB o).length (Lib.byteCells (opB o)) := by
        unfold opB
        rw [List.length_append, byteCells_append]
        have e8 : (le8 o.pr).length = 8 := leN_len _ _
        rw [e8]
        exact o2
      have hcv := own_convert o3
      clear o2
      go_wp2
      go_ret2
      exact ⟨by rw [hfin.out]; rfl, hB0.trans ((hb.trans b2).mono (by omega))⟩
end Go.Proofs.Ytdaonkgcdheplaa
