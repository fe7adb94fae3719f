/- Texts as bytes, there and back. -/
import Derived.Test.YtocphdikppeijaaWx06
import Derived.Test.YtocphdikppeijaaWx04
namespace Go.Proofs.Ytocphdikppeijaa
open Go.RowKit
set_option linter.unusedVariables false
set_option linter.unusedSimpArgs false

def txtB (t : ByteArray) : List UInt8 := enc t.size ++ t.data.toList
theorem txtB_len (t : ByteArray) : (txtB t).length ≤ t.size + 10 := by
  unfold txtB
  have h := enc_le t.size
  have hsz : t.data.toList.length = t.size := by rw [Array.length_toList]; rfl
  rw [List.length_append]; omega
theorem bytes_len (t : ByteArray) : t.data.toList.length = t.size := by rw [Array.length_toList]; rfl
theorem bytes_eta (t : ByteArray) : (⟨t.data.toList.toArray⟩ : ByteArray) = t := by
  apply ByteArray.ext; simp

def rdTP (l : List UInt8) : Except Int (ByteArray × Nat) :=
  match rdP 8 0 0 l with
  | .error e => .error e
  | .ok (n, c) => if 1048576 < n then .error 4 else if l.length < c + n then .error 10 else .ok (⟨((l.drop c).take n).toArray⟩, c + n)

theorem codecText : Codec txtB rdTP (fun t => t.size ≤ 1048576) := by
  refine ⟨?_, ?_, ?_⟩
  · intro t post h
    unfold rdTP txtB
    have hb := bytes_len t
    rw [List.append_assoc, codecNum.there t.size _ (by omega)]
    simp only [List.drop_left]
    rw [if_neg (by omega), if_neg (by simp only [List.length_append]; omega)]
    have e : (t.data.toList ++ post).take t.size = t.data.toList := by rw [← hb]; simp
    rw [e, bytes_eta]
    simp only [List.length_append, hb]
  · intro l t c h
    unfold rdTP at h
    cases e1 : rdP 8 0 0 l with
    | error e => rw [e1] at h; cases h
    | ok p =>
      obtain ⟨n, c1⟩ := p
      rw [e1] at h
      simp only at h
      split at h
      · cases h
      · split at h
        · cases h
        · rename_i h1 h2
          simp only [Except.ok.injEq, Prod.mk.injEq] at h
          obtain ⟨rfl, rfl⟩ := h
          obtain ⟨o1, k1, t1, n1⟩ := codecNum.back _ _ _ e1
          have hlen : ((l.drop c1).take n).length = n := by rw [List.length_take, List.length_drop]; omega
          have hsz : (⟨((l.drop c1).take n).toArray⟩ : ByteArray).size = n := by
            show ((l.drop c1).take n).toArray.size = n
            simpa using hlen
          unfold txtB
          rw [hsz]
          refine ⟨by omega, ?_, ?_, by omega⟩
          · rw [List.length_append]
            simp only [hlen]
            omega
          · rw [List.take_add, t1]
  · intro t j h hj
    unfold rdTP txtB at *
    have hb := bytes_len t
    rw [List.length_append] at hj
    by_cases hc : j < (enc t.size).length
    · rw [List.take_append_of_le_length (by omega), codecNum.cut t.size j (by omega) hc]
    · have e : (enc t.size ++ t.data.toList).take j = enc t.size ++ t.data.toList.take (j - (enc t.size).length) := by
        rw [List.take_append, List.take_of_length_le (by omega)]
      rw [e, codecNum.there t.size _ (by omega)]
      simp only
      rw [if_neg (by omega), if_pos (by rw [List.length_append, List.length_take]; omega)]
theorem heap_alloc_last (w : World) (o : Obj) : (w.alloc o).heap[w.heap.size]? = some o := heap_alloc_new w o

theorem cellOf {w : World} {k o : Nat} {cs : Array Value} {t : TypeId} {fr : Nat × Nat} {v : Value} (h : w.heap[k]? = some (.cells cs t fr)) (hv : cs[o]? = some v) : w.cell? ⟨k, o, none⟩ = some v := by
  simp [World.cell?, h, hv]
end Go.Proofs.Ytocphdikppeijaa

namespace Go.Proofs.Ytocphdikppeijaa
open Go.RowKit
set_option linter.unusedVariables false
set_option linter.unusedSimpArgs false

structure Sg where
  frm : Int
  body : ByteArray
  sig : ByteArray

def Sg.val (m : Sg) : Value := .agg #[.int .i64 m.frm, .string m.body, .string m.sig]
def sgOk (m : Sg) : Bool := decide (0 ≤ m.frm ∧ m.frm ≤ 255) && decide (m.body.size ≤ 1048576) && decide (m.sig.size ≤ 32)

theorem isSigned_calls (m : Sg) (w : World) (h1 : m.body.size ≤ maxLen) (h2 : m.sig.size ≤ maxLen) :
    Calls Try.prog 44 #[m.val] w fun e w' => e = .returned (.bool (sgOk m)) ∧ Below w.heap.size w w' := by
  obtain ⟨f, b, g⟩ := m
  simp only at h1 h2
  unfold maxLen at h1 h2
  unfold sgOk Sg.val
  simp only
  have hw := fun wx => within_calls f 255 wx
  have HW : Hid _ := hw
  clear hw
  by_cases h0 : 0 ≤ f ∧ f ≤ 255
  · have e0 : decide (0 ≤ f ∧ f ≤ 255) = true := by simpa using h0
    have e1 : decide (0 ≤ f) = true := by simpa using h0.1
    have e2 : decide (f ≤ 255) = true := by simpa using h0.2
    by_cases hb : b.size ≤ 1048576
    · have hd : decide ((b.size : Int) ≤ 1048576) = true := by simp only [decide_eq_true_eq]; omega
      go_enter Try.func44, Try.ntmps44
      go_wp2_with fail
      refine (HW.out _).mono ?_
      rintro e w1 ⟨rfl, rfl⟩
      go_wp2
      go_ret
      exact ⟨by simp [h0, hb]; omega, by go_grown⟩
    · have hd : decide ((b.size : Int) ≤ 1048576) = false := by simp only [decide_eq_false_iff_not]; omega
      go_enter Try.func44, Try.ntmps44
      go_wp2_with fail
      refine (HW.out _).mono ?_
      rintro e w1 ⟨rfl, rfl⟩
      go_wp2
      go_ret
      exact ⟨by simp [h0, hb], by go_grown⟩
  · have e0 : decide (0 ≤ f ∧ f ≤ 255) = false := by simpa using h0
    rw [e0] at HW
    go_enter Try.func44, Try.ntmps44
    go_wp2_with fail
    refine (HW.out _).mono ?_
    rintro e w1 ⟨rfl, rfl⟩
    go_wp2
    go_ret
    exact ⟨by simp [h0], by go_grown⟩

/-- A slice of messages: its cells. -/
def Sgs (w : World) (v : Value) (l : List Sg) : Prop :=
  ((∃ p c, v = .slice p 0 c) ∧ l = []) ∨
  ∃ b off cap, v = .slice (some ⟨b, off, none⟩) l.length cap ∧ ∀ i (h : i < l.length),
    w.cell? ⟨b, off + i * 3, none⟩ = some (.int .i64 l[i].frm) ∧ w.cell? ⟨b, off + i * 3 + 1, none⟩ = some (.string l[i].body) ∧ w.cell? ⟨b, off + i * 3 + 2, none⟩ = some (.string l[i].sig) ∧
    l[i].body.size ≤ maxLen ∧ l[i].sig.size ≤ maxLen

theorem Sgs.below {w w' : World} {v : Value} {l : List Sg} (h : Sgs w v l) (hb : Below w.heap.size w w') : Sgs w' v l := by
  rcases h with h | ⟨b, off, cap, hv, hc⟩
  · exact Or.inl h
  · refine Or.inr ⟨b, off, cap, hv, fun i hi => ?_⟩
    obtain ⟨h1, h2, h3, h4⟩ := hc i hi
    have hlt := World.block_lt_of_cell? w _ h1
    exact ⟨(hb.cell (p := ⟨b, off + i * 3, none⟩) hlt).trans h1, (hb.cell (p := ⟨b, off + i * 3 + 1, none⟩) hlt).trans h2, (hb.cell (p := ⟨b, off + i * 3 + 2, none⟩) hlt).trans h3, h4⟩

theorem areSigned_calls (v : Value) (l : List Sg) (w : World) (h : Sgs w v l) (hl : l.length < 9223372036854775807) :
    Calls Try.prog 94 #[v] w fun e w' => e = .returned (.bool (l.all sgOk)) ∧ Below w.heap.size w w' := by
  rcases h with ⟨⟨pz, cz, rfl⟩, rfl⟩ | ⟨b, off, cap, rfl, hc⟩
  · go_enter Try.func94, Try.ntmps94
    go_wp2
    refine wp_loop_rounds 1 ?_
    rw [rounds_succ]
    go_wp2
    go_ret
    exact ⟨rfl, Below.refl _ _⟩
  · have hnot : ∀ (x : Bool) (w : World), (Op.unary .not (.bool x)).run Try.prog w = .ok (.bool (!x)) w := fun _ _ => rfl
    have HC : Hid _ := hc
    clear hc
    go_enter Try.func94, Try.ntmps94
    go_wp2
    go_loopw [7] (fun i wr => ∃ k : Nat, k ≤ l.length ∧ i = .int .i64 k ∧ Hid (l.all sgOk = (l.drop k).all sgOk) ∧ Below w.heap.size w wr) (fun i _ => l.length - (intOf i).toNat)
    case atStart => exact ⟨0, Nat.zero_le _, rfl, rfl, Below.refl _ _⟩
    case round =>
      obtain ⟨k, hk, rfl, hR, hb⟩ := hrel
      by_cases hlt : k < l.length
      · have hd : decide ((k : Int) < l.length) = true := by simp only [decide_eq_true_eq]; omega
        obtain ⟨c1, c2, c3, z1, z2⟩ := HC.out k hlt
        have hbl := World.block_lt_of_cell? w _ c1
        have d1 := (hb.cell (p := ⟨b, off + k * 3, none⟩) hbl).trans c1
        have d2 := (hb.cell (p := ⟨b, off + k * 3 + 1, none⟩) hbl).trans c2
        have d3 := (hb.cell (p := ⟨b, off + k * 3 + 2, none⟩) hbl).trans c3
        have hdr : l.drop k = l[k] :: l.drop (k + 1) := List.drop_eq_getElem_cons hlt
        have HD : Hid _ := hdr
        have his := fun wx => isSigned_calls l[k] wx z1 z2
        have HI : Hid _ := his
        clear hdr his c1 c2 c3
        go_wp2_with fail
        refine (HI.out _).mono ?_
        rintro e w1 ⟨rfl, hb1⟩
        have hbw : Below w.heap.size w w1 := by
          have hz := hb.size
          exact (hb.alloc (by omega) _).trans (hb1.mono (by simp; omega))
        by_cases hok : sgOk l[k] = true
        · rw [hok]
          go_wp2
          go_roundw
          case rel =>
            refine ⟨k + 1, by omega, by go_num, ?_, hbw⟩
            show _ = _
            rw [hR.out, HD.out, List.all_cons, hok]; simp
          case measure => simp [intOf]; omega
        · have hno : sgOk l[k] = false := by simpa using hok
          have hfin : Hid (l.all sgOk = false) := by
            show _ = _
            rw [hR.out, HD.out, List.all_cons, hno]; rfl
          rw [hno]
          go_wp2
          go_ret
          exact ⟨by rw [hfin.out]; rfl, hbw⟩
      · have hd : decide ((k : Int) < l.length) = false := by simp only [decide_eq_false_iff_not]; omega
        have hfin : Hid (l.all sgOk = true) := by
          show _ = _
          rw [hR.out, List.drop_of_length_le (by omega)]; rfl
        go_wp2
        go_ret
        exact ⟨by rw [hfin.out]; rfl, hb⟩
end Go.Proofs.Ytocphdikppeijaa
