/- PutRecords: records as bytes. -/
import Derived.Test.YtpcafjbebhcilaaGreatTm14
import Derived.Test.YtpcafjbebhcilaaGreatTm13
namespace Go.Proofs.YtpcafjbebhcilaaGreat
open Go.RowKit
set_option linter.unusedVariables false
set_option linter.unusedSimpArgs false

def recsR (l : List Rc) : Array Value :=
  if riseR l = 0 then (if 1048576 < (rcsB l).length then #[.string ⟨#[]⟩, .int .i64 4] else #[.string ⟨(rcsB l).toArray⟩, .int .i64 0])
  else #[.string ⟨#[]⟩, .int .i64 (riseR l)]

theorem riseR_ok {l : List Rc} (h : riseR l = 0) : l.length ≤ 4096 ∧ ∀ m ∈ l, m.key.size ≤ 64 ∧ m.dat.size ≤ 4096 := by
  unfold riseR at h
  split at h
  · omega
  · exact ⟨by omega, riseF_ok l _ h⟩

theorem rcs_take_len {l : List Rc} (h : riseR l = 0) (k : Nat) : ((l.take k).flatMap rcB).length ≤ 17121280 := by
  obtain ⟨h1, h2⟩ := riseR_ok h
  have h3 := flatMap_len rcB 4180 (l.take k) (fun m hm => rcB_len m (h2 m (List.mem_of_mem_take hm)))
  have h4 : (l.take k).length ≤ 4096 := by rw [List.length_take]; omega
  have h5 : 4180 * (l.take k).length ≤ 4180 * 4096 := Nat.mul_le_mul_left _ h4
  omega

set_option maxRecDepth 100000 in
set_option maxHeartbeats 1000000 in
theorem putRecords_calls (v : Value) (l : List Rc) (w : World) (h : Rcs w v l) (hl : l.length ≤ 9223372036854775807) :
    Calls Tryz.prog 42 #[v] w fun e w' => e = .returned (.tuple (recsR l)) ∧ Below w.heap.size w w' := by
  have hri := rise_calls v l w h hl
  have HC : Hid _ := h
  obtain ⟨p, c, rfl⟩ := h.len
  clear h
  by_cases hok : riseR l = 0
  · have hfin : Hid (recsR l = if 1048576 < (rcsB l).length then #[.string ⟨#[]⟩, .int .i64 4] else #[.string ⟨(rcsB l).toArray⟩, .int .i64 0]) := by show _ = _; unfold recsR; rw [if_pos hok]
    obtain ⟨hl4, hall⟩ := riseR_ok hok
    have HA : Hid _ := hall
    have HT : Hid (∀ k, ((l.take k).flatMap rcB).length ≤ 17121280) := rcs_take_len hok
    have el := enc_le l.length
    rw [hok] at hri
    clear hall
    go_enter Tryz.func42, Tryz.ntmps42
    go_wp2_with fail
    refine hri.mono ?_
    rintro e w1 ⟨rfl, b1⟩
    have z1 := b1.size
    go_wp2_with fail
    refine (layInt_calls w.heap.size (.slice none 0 0) 0 [] l.length w1 (by omega) (World.ownsRow_nil _ _ _ _) (by omega) z1).mono ?_
    rintro e w2 ⟨v2, rfl, o2, b2, k2⟩
    have B2 := b1.trans b2
    go_wp2
    go_loopw [5, 18] (fun o i wr => ∃ k : Nat, k ≤ l.length ∧ i = .int .i64 k ∧ wr.ownsRow w.heap.size 5 1 o (enc l.length ++ (l.take k).flatMap rcB).length (Lib.byteCells (enc l.length ++ (l.take k).flatMap rcB)) ∧ Below w.heap.size w wr) (fun _ i _ => l.length - (intOf i).toNat)
    case atStart => exact ⟨0, Nat.zero_le _, rfl, by simpa using o2, B2⟩
    case round =>
      obtain ⟨k, hk, rfl, ho, hb⟩ := hrel
      have hz := hb.size
      by_cases hlt : k < l.length
      · have hd2 : decide ((k : Int) < l.length) = true := by simp only [decide_eq_true_eq]; omega
        rcases HC.out with ⟨_, rfl⟩ | ⟨b, off, cap, hv, hc⟩
        · simp at hlt
        · simp only [Value.slice.injEq] at hv
          obtain ⟨rfl, _, rfl⟩ := hv
          obtain ⟨c1, c2, _⟩ := hc k hlt
          have hbl := World.block_lt_of_cell? w _ c1
          have d1 := (hb.cell (p := ⟨b, off + k * 2, none⟩) hbl).trans c1
          have d2 := (hb.cell (p := ⟨b, off + k * 2 + 1, none⟩) hbl).trans c2
          have hm := HA.out l[k] (List.getElem_mem hlt)
          have htk := HT.out k
          have HL : Hid _ := take_flat rcB l k hlt
          have hbox := blk_new wr wr.heap.size #[.string l[k].key, .string l[k].dat] 47 rfl
          have HBX : Hid _ := hbox
          have hb2 : Below w.heap.size w (wr.alloc (.cells #[.string l[k].key, .string l[k].dat] 47)) := hb.alloc hz _
          have ho2 := ho.alloc (.cells #[.string l[k].key, .string l[k].dat] 47)
          clear c1 c2 hc hbox ho
          generalize hx : l[k] = x at d1 d2 hm HL HBX hb2 ho2
          have t1 := txtB_len x.key
          unfold txtB at t1
          have hlen0 : (enc l.length ++ (l.take k).flatMap rcB).length ≤ 18000000 := by rw [List.length_append]; omega
          have HE : Hid (enc l.length ++ (l.take (k + 1)).flatMap rcB = (enc l.length ++ (l.take k).flatMap rcB) ++ rcB x) := by show _ = _; rw [HL.out, List.append_assoc]
          clear hx HL
          generalize enc l.length ++ (l.take k).flatMap rcB = Z at *
          go_wp2_with fail
          refine (layText_calls w.heap.size _ _ _ x.key _ (by omega) ho2 (by omega) (by simp; omega)).mono ?_
          rintro e w3 ⟨v3, rfl, o3, b3, k3⟩
          have X3 := k3.cell (o := 0) HBX.out (by decide)
          have c1 := cellOf (o := 1) X3 rfl
          have hb3 := hb2.trans b3
          have hz3 := hb3.size
          go_wp2_with fail
          refine (layText_calls w.heap.size v3 _ _ x.dat _ (by omega) o3 (by omega) (by omega)).mono ?_
          rintro e w4 ⟨v4, rfl, o4, b4, k4⟩
          have hb4 := hb3.trans b4
          go_wp2
          go_roundw
          case rel =>
            refine ⟨k + 1, by omega, by go_num, ?_, hb4⟩
            rw [HE.out]
            unfold rcB txtB
            simp only [byteCells_append, List.length_append, List.append_assoc] at o4 ⊢
            simpa only [Nat.add_assoc] using o4
          case measure => simp [intOf]; omega
      · have hd2 : decide ((k : Int) < l.length) = false := by simp only [decide_eq_false_iff_not]; omega
        have hfull : Hid (enc l.length ++ (l.take k).flatMap rcB = rcsB l) := by show _ = _; rw [List.take_of_length_le (by omega)]; rfl
        rw [hfull.out] at ho
        have hlen : (rcsB l).length ≤ 18000000 := by
          have htk := HT.out k
          rw [← hfull.out, List.length_append]; omega
        clear hfull
        go_wp2_with fail
        refine (fit_calls w.heap.size _ _ wr ho (by omega)).mono ?_
        rintro e w3 ⟨rfl, rfl⟩
        by_cases hL : 1048576 < (rcsB l).length
        · have hfin2 : Hid (recsR l = #[.string ⟨#[]⟩, .int .i64 4]) := by show _ = _; rw [hfin.out, if_pos hL]
          rw [if_pos hL]
          clear hfin
          go_wp2
          go_ret2
          exact ⟨by rw [hfin2.out]; rfl, hb⟩
        · have hfin2 : Hid (recsR l = #[.string ⟨(rcsB l).toArray⟩, .int .i64 0]) := by show _ = _; rw [hfin.out, if_neg hL]
          rw [if_neg hL]
          clear hfin
          go_wp2
          go_ret2
          exact ⟨by rw [hfin2.out]; rfl, hb⟩
  · have hne : (riseR l != 0) = true := by simpa using hok
    have hfin : Hid (recsR l = #[.string ⟨#[]⟩, .int .i64 (riseR l)]) := by show _ = _; unfold recsR; rw [if_neg hok]
    go_enter Tryz.func42, Tryz.ntmps42
    go_wp2_with fail
    refine hri.mono ?_
    rintro e w1 ⟨rfl, b1⟩
    go_wp2
    go_ret2
    exact ⟨by rw [hfin.out]; rfl, b1⟩
end Go.Proofs.YtpcafjbebhcilaaGreat

namespace Go.Proofs.YtpcafjbebhcilaaGreat
open Go.RowKit
set_option linter.unusedVariables false
set_option linter.unusedSimpArgs false

structure Pt where
  idx : Int
  key : ByteArray
  dat : ByteArray
  sides : List ByteArray

structure Pf where
  cnt : Int
  paths : List Pt

def ptB (x : Pt) : List UInt8 := enc x.idx.toNat ++ (txtB x.key ++ (txtB x.dat ++ (enc x.sides.length ++ x.sides.flatMap txtB)))
def pfB (p : Pf) : List UInt8 := enc p.cnt.toNat ++ (enc p.paths.length ++ p.paths.flatMap ptB)
def sdOk (t : ByteArray) : Bool := decide (t.size ≤ 32)
def ptOk (x : Pt) : Bool := decide (0 ≤ x.idx ∧ x.idx ≤ 4095) && (decide (x.key.size ≤ 64) && (decide (x.dat.size ≤ 4096) && (decide (x.sides.length ≤ 13) && x.sides.all sdOk)))
def pfOk (p : Pf) : Bool := decide (0 ≤ p.cnt ∧ p.cnt ≤ 4096) && (decide (p.paths.length ≤ 2) && p.paths.all ptOk)

theorem ptB_len {x : Pt} (h : ptOk x = true) : (ptB x).length ≤ 6000 := by
  simp only [ptOk, Bool.and_eq_true, decide_eq_true_eq] at h
  obtain ⟨h1, h2, h3, h4, h5⟩ := h
  have e1 := enc_le x.idx.toNat
  have e2 := txtB_len x.key
  have e3 := txtB_len x.dat
  have e4 := enc_le x.sides.length
  have e5 := flatMap_len txtB 42 x.sides (fun t ht => by
    have := List.all_eq_true.1 h5 t ht
    simp only [sdOk, decide_eq_true_eq] at this
    have e := txtB_len t
    omega)
  unfold ptB
  simp only [List.length_append]
  omega
theorem pfB_len {p : Pf} (h : pfOk p = true) : (pfB p).length ≤ 12020 := by
  simp only [pfOk, Bool.and_eq_true, decide_eq_true_eq] at h
  obtain ⟨h1, h2, h3⟩ := h
  have e1 := enc_le p.cnt.toNat
  have e2 := enc_le p.paths.length
  have e3 := flatMap_len ptB 6000 p.paths (fun x hx => ptB_len (List.all_eq_true.1 h3 x hx))
  unfold pfB
  simp only [List.length_append]
  omega
end Go.Proofs.YtpcafjbebhcilaaGreat
