/- Proofs as plain data. -/
import Derived.Test.YtlnlagmobgkblaaGreatRcD
namespace Go.Proofs.YtlnlagmobgkblaaGreat
open Go.RowKit
set_option linter.unusedVariables false
set_option linter.unusedSimpArgs false

structure Pt where
  idx : Int
  key : ByteArray
  dat : ByteArray
  sides : List ByteArray

structure Pf where
  cnt : Int
  paths : List Pt

def ptB (x : Pt) : List UInt8 := enc x.idx.toNat ++ (txtB x.key ++ (txtB x.dat ++ (enc x.sides.length ++ x.sides.flatMap txtB)))
def pfB (p : Pf) : List UInt8 := enc p.cnt.toNat ++ (enc p.paths.length ++ p.paths.flatMap ptB)
def sdOk (t : ByteArray) : Bool := decide (t.size ≤ 32)
def ptOk (x : Pt) : Bool := decide (0 ≤ x.idx ∧ x.idx ≤ 4095) && (decide (x.key.size ≤ 64) && (decide (x.dat.size ≤ 4096) && (decide (x.sides.length ≤ 13) && x.sides.all sdOk)))
def pfOk (p : Pf) : Bool := decide (0 ≤ p.cnt ∧ p.cnt ≤ 4096) && (decide (p.paths.length ≤ 2) && p.paths.all ptOk)

theorem ptB_len {x : Pt} (h : ptOk x = true) : (ptB x).length ≤ 6000 := by
  simp only [ptOk, Bool.and_eq_true, decide_eq_true_eq] at h
  obtain ⟨h1, h2, h3, h4, h5⟩ := h
  have e1 := enc_le x.idx.toNat
  have e2 := txtB_len x.key
  have e3 := txtB_len x.dat
  have e4 := enc_le x.sides.length
  have e5 := flatMap_len txtB 42 x.sides (fun t ht => by
    have := List.all_eq_true.1 h5 t ht
    simp only [sdOk, decide_eq_true_eq] at this
    have e := txtB_len t
    omega)
  unfold ptB
  simp only [List.length_append]
  omega
theorem pfB_len {p : Pf} (h : pfOk p = true) : (pfB p).length ≤ 12020 := by
  simp only [pfOk, Bool.and_eq_true, decide_eq_true_eq] at h
  obtain ⟨h1, h2, h3⟩ := h
  have e1 := enc_le p.cnt.toNat
  have e2 := enc_le p.paths.length
  have e3 := flatMap_len ptB 6000 p.paths (fun x hx => ptB_len (List.all_eq_true.1 h3 x hx))
  unfold pfB
  simp only [List.length_append]
  omega
end Go.Proofs.YtlnlagmobgkblaaGreat
