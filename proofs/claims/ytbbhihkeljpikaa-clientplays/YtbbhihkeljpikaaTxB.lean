/- Texts as bytes, there and back. -/
import Derived.Test.YtbbhihkeljpikaaPure2
namespace Go.Proofs.Ytbbhihkeljpikaa
open Go.RowKit
set_option linter.unusedVariables false
set_option linter.unusedSimpArgs false

def txtB (t : ByteArray) : List UInt8 := enc t.size ++ t.data.toList
theorem txtB_len (t : ByteArray) : (txtB t).length ≤ t.size + 10 := by
  unfold txtB
  have h := enc_le t.size
  have hsz : t.data.toList.length = t.size := by rw [Array.length_toList]; rfl
  rw [List.length_append]; omega
theorem bytes_len (t : ByteArray) : t.data.toList.length = t.size := by rw [Array.length_toList]; rfl
theorem bytes_eta (t : ByteArray) : (⟨t.data.toList.toArray⟩ : ByteArray) = t := by
  apply ByteArray.ext; simp

def rdTP (l : List UInt8) : Except Int (ByteArray × Nat) :=
  match rdP 8 0 0 l with
  | .error e => .error e
  | .ok (n, c) => if 1048576 < n then .error 4 else if l.length < c + n then .error 10 else .ok (⟨((l.drop c).take n).toArray⟩, c + n)

theorem codecText : Codec txtB rdTP (fun t => t.size ≤ 1048576) := by
  refine ⟨?_, ?_, ?_⟩
  · intro t post h
    unfold rdTP txtB
    have hb := bytes_len t
    rw [List.append_assoc, codecNum.there t.size _ (by omega)]
    simp only [List.drop_left]
    rw [if_neg (by omega), if_neg (by simp only [List.length_append]; omega)]
    have e : (t.data.toList ++ post).take t.size = t.data.toList := by rw [← hb]; simp
    rw [e, bytes_eta]
    simp only [List.length_append, hb]
  · intro l t c h
    unfold rdTP at h
    cases e1 : rdP 8 0 0 l with
    | error e => rw [e1] at h; cases h
    | ok p =>
      obtain ⟨n, c1⟩ := p
      rw [e1] at h
      simp only at h
      split at h
      · cases h
      · split at h
        · cases h
        · rename_i h1 h2
          simp only [Except.ok.injEq, Prod.mk.injEq] at h
          obtain ⟨rfl, rfl⟩ := h
          obtain ⟨o1, k1, t1, n1⟩ := codecNum.back _ _ _ e1
          have hlen : ((l.drop c1).take n).length = n := by rw [List.length_take, List.length_drop]; omega
          have hsz : (⟨((l.drop c1).take n).toArray⟩ : ByteArray).size = n := by
            show ((l.drop c1).take n).toArray.size = n
            simpa using hlen
          unfold txtB
          rw [hsz]
          refine ⟨by omega, ?_, ?_, by omega⟩
          · rw [List.length_append]
            simp only [hlen]
            omega
          · rw [List.take_add, t1]
  · intro t j h hj
    unfold rdTP txtB at *
    have hb := bytes_len t
    rw [List.length_append] at hj
    by_cases hc : j < (enc t.size).length
    · rw [List.take_append_of_le_length (by omega), codecNum.cut t.size j (by omega) hc]
    · have e : (enc t.size ++ t.data.toList).take j = enc t.size ++ t.data.toList.take (j - (enc t.size).length) := by
        rw [List.take_append, List.take_of_length_le (by omega)]
      rw [e, codecNum.there t.size _ (by omega)]
      simp only
      rw [if_neg (by omega), if_pos (by rw [List.length_append, List.length_take]; omega)]
theorem heap_alloc_last (w : World) (o : Obj) : (w.alloc o).heap[w.heap.size]? = some o := heap_alloc_new w o

theorem cellOf {w : World} {k o : Nat} {cs : Array Value} {t : TypeId} {fr : Nat × Nat} {v : Value} (h : w.heap[k]? = some (.cells cs t fr)) (hv : cs[o]? = some v) : w.cell? ⟨k, o, none⟩ = some v := by
  simp [World.cell?, h, hv]
end Go.Proofs.Ytbbhihkeljpikaa
