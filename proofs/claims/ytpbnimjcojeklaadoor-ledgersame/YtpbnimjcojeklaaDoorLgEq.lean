/- Whether accounts are the same; bytes tell numbers. -/
import Derived.Test.YtpbnimjcojeklaaDoorLgK
import Derived.Test.YtpbnimjcojeklaaDoorLgQ
namespace Go.Proofs.YtpbnimjcojeklaaDoor
open Go.RowKit
set_option linter.unusedSimpArgs false
set_option linter.unusedVariables false

def accEq (k k' : Kt) : Bool := k.n 0 == k'.n 0 && (k.n 1 == k'.n 1 && ((k.n 2 == k'.n 2 && (k.n 3 == k'.n 3 && (k.n 4 == k'.n 4 && k.n 5 == k'.n 5))) && (k.n 6 == k'.n 6 && (k.n 7 == k'.n 7 && (k.n 8 == k'.n 8 && k.n 9 == k'.n 9)))))
theorem fieldsAcc : (Tryd.prog.fieldsOf 43).toList.map (fun f => (f.name, f.type, f.offset)) = [("Cash", 3, 0), ("Held", 3, 1), ("Goods", 37, 2), ("Locked", 37, 6)] := by kernel_rfl
theorem partAcc2 (k : Kt) (w : World) : (part 37 (accA k) 2).run Tryd.prog w = .ok (.agg (arr4 (k.n 2) (k.n 3) (k.n 4) (k.n 5))) w := by kernel_rfl
theorem partAcc6 (k : Kt) (w : World) : (part 37 (accA k) 6).run Tryd.prog w = .ok (.agg (arr4 (k.n 6) (k.n 7) (k.n 8) (k.n 9))) w := by kernel_rfl
theorem partAcc0 (k : Kt) (w : World) : (part 3 (accA k) 0).run Tryd.prog w = .ok (.int .i64 (k.n 0)) w := by kernel_rfl
theorem partAcc1 (k : Kt) (w : World) : (part 3 (accA k) 1).run Tryd.prog w = .ok (.int .i64 (k.n 1)) w := by kernel_rfl
theorem list4L {α : Type} {l : List α} (h : l.length = 4) : ∃ a b c d, l = [a, b, c, d] := by
  match l, h with
  | [a, b, c, d], _ => exact ⟨a, b, c, d, rfl⟩
theorem eqAcc (w : World) (k k' : Kt) : (Op.equalIn 10000 43 (.agg (accA k)) (.agg (accA k'))).run Tryd.prog w = .ok (accEq k k') w := by
  have h1 := run_equalIn_agg (P := Tryd.prog) w 9999 43 (accA k) (accA k') (by kernel_rfl) (by kernel_rfl)
  rw [h1]
  have hf := fieldsAcc
  generalize (Tryd.prog.fieldsOf 43).toList = l at hf
  obtain ⟨f0, f1, f2, f3, rfl⟩ := list4L (l := l) (by have := congrArg List.length hf; simpa using this)
  · simp only [List.map_cons, List.map_nil, List.cons.injEq, Prod.mk.injEq, and_true] at hf
    obtain ⟨⟨a1, a2, a3⟩, ⟨b1, b2, b3⟩, ⟨c1, c2, c3⟩, d1, d2, d3⟩ := hf
    have q : ∀ x y : Int, (Op.equalIn 9999 3 (.int .i64 x) (.int .i64 y)).run Tryd.prog w = .ok (x == y) w := fun x y => run_equalIn_int (P := Tryd.prog) w 9998 3 .i64 .i64 x y Tryd.underlying3
    have r : ∀ a b c d a' b' c' d' : Int, (Op.equalIn 9999 37 (.agg (arr4 a b c d)) (.agg (arr4 a' b' c' d'))).run Tryd.prog w = .ok (a == a' && (b == b' && (c == c' && d == d'))) w := fun a b c d a' b' c' d' => eq4 w 9997 a b c d a' b' c' d'
    simp only [Op.eqFields, a1, a2, a3, b1, b2, b3, c1, c2, c3, d1, d2, d3, Sem.run_bind, Sem.run_ite, partAcc0, partAcc1, partAcc2, partAcc6, Result.andThen_ok, q, r, Sem.run_pure]
    unfold accEq
    generalize (k.n 2 == k'.n 2 && (k.n 3 == k'.n 3 && (k.n 4 == k'.n 4 && k.n 5 == k'.n 5))) = G
    generalize (k.n 6 == k'.n 6 && (k.n 7 == k'.n 7 && (k.n 8 == k'.n 8 && k.n 9 == k'.n 9))) = M
    cases k.n 0 == k'.n 0 <;> cases k.n 1 == k'.n 1 <;> cases G <;> cases M <;> simp

theorem encF_inj : ∀ (c n m : Nat) (x y : List UInt8), n < 128 ^ c → m < 128 ^ c → encF c n ++ x = encF c m ++ y → n = m ∧ x = y
  | 0, n, m, x, y, hn, hm, h => by
    simp only [Nat.pow_zero] at hn hm
    exact ⟨by omega, by simpa [encF] using h⟩
  | c + 1, n, m, x, y, hn, hm, h => by
    have e1 : ∀ z, z < 128 → (UInt8.ofNat z).toNat = z := fun z hz => by simp [UInt8.toNat_ofNat']; omega
    have e2 : ∀ z, (UInt8.ofNat (128 + z % 128)).toNat = 128 + z % 128 := fun z => by simp [UInt8.toNat_ofNat']; omega
    by_cases h1 : n < 128
    · by_cases h2 : m < 128
      · simp only [encF, h1, h2, if_true, List.cons_append, List.nil_append, List.cons.injEq] at h
        obtain ⟨h3, h4⟩ := h
        have := congrArg UInt8.toNat h3
        rw [e1 n h1, e1 m h2] at this
        exact ⟨this, h4⟩
      · simp only [encF, h1, h2, if_true, if_false, List.cons_append, List.nil_append, List.cons.injEq] at h
        have := congrArg UInt8.toNat h.1
        rw [e1 n h1, e2 m] at this
        omega
    · by_cases h2 : m < 128
      · simp only [encF, h1, h2, if_true, if_false, List.cons_append, List.nil_append, List.cons.injEq] at h
        have := congrArg UInt8.toNat h.1
        rw [e1 m h2, e2 n] at this
        omega
      · simp only [encF, h1, h2, if_false, List.cons_append, List.cons.injEq] at h
        obtain ⟨h3, h4⟩ := h
        have h5 := congrArg UInt8.toNat h3
        rw [e2 n, e2 m] at h5
        rw [Nat.pow_succ] at hn hm
        obtain ⟨h6, h7⟩ := encF_inj c (n / 128) (m / 128) x y (by omega) (by omega) h4
        exact ⟨by omega, h7⟩
theorem enc_inj {n m : Int} {x y : List UInt8} (hn : 0 ≤ n ∧ n ≤ 1099511627776) (hm : 0 ≤ m ∧ m ≤ 1099511627776) (h : enc n.toNat ++ x = enc m.toNat ++ y) : n = m ∧ x = y := by
  have e : (128 : Nat) ^ 10 = 1180591620717411303424 := by decide
  obtain ⟨h1, h2⟩ := encF_inj 10 n.toNat m.toNat x y (by rw [e]; omega) (by rw [e]; omega) h
  exact ⟨by omega, h2⟩
theorem encs_inj : ∀ (a b : List Int) (x y : List UInt8), a.length = b.length → (∀ n ∈ a, 0 ≤ n ∧ n ≤ 1099511627776) → (∀ n ∈ b, 0 ≤ n ∧ n ≤ 1099511627776) → encs a ++ x = encs b ++ y → a = b ∧ x = y
  | [], [], x, y, _, _, _, h => ⟨rfl, by simpa [encs] using h⟩
  | n :: a, m :: b, x, y, hl, ha, hb, h => by
    have e : ∀ (n : Int) (a : List Int), encs (n :: a) = enc n.toNat ++ encs a := fun n a => by simp [encs]
    rw [e, e, List.append_assoc, List.append_assoc] at h
    obtain ⟨h1, h2⟩ := enc_inj (ha n (by simp)) (hb m (by simp)) h
    obtain ⟨h3, h4⟩ := encs_inj a b x y (by simpa using hl) (fun z hz => ha z (by simp [hz])) (fun z hz => hb z (by simp [hz])) h2
    exact ⟨by rw [h1, h3], h4⟩
/-- Values tell all that is told of an account, where there are two goods. -/
theorem valB_inj {k k' : Kt} (hf : k.fits) (hf' : k'.fits) (g : Nat) (hg : g ≤ 4) (h : valB k g = valB k' g) : k.n 10 = k'.n 10 ∧ k.n 0 = k'.n 0 ∧ k.n 1 = k'.n 1 ∧ (∀ i, i < g → k.n (2 + i) = k'.n (2 + i) ∧ k.n (6 + i) = k'.n (6 + i)) ∧ k.reply = k'.reply := by
  have hin : ∀ (k : Kt), k.fits → ∀ n ∈ [k.n 10, k.n 0, k.n 1], 0 ≤ n ∧ n ≤ 1099511627776 := fun k hf n hn => by
    simp at hn
    rcases hn with rfl | rfl | rfl
    · exact hf.num 10 (by omega)
    · exact hf.num 0 (by omega)
    · exact hf.num 1 (by omega)
  have hir : ∀ (k : Kt) (o : Nat), o + g ≤ 10 → k.fits → ∀ n ∈ (List.range g).map (fun i => k.n (o + i)), 0 ≤ n ∧ n ≤ 1099511627776 := fun k o ho hf n hn => by
    obtain ⟨i, hi, rfl⟩ := List.mem_map.1 hn
    have := List.mem_range.1 hi
    exact hf.num (o + i) (by omega)
  unfold valB at h
  rw [List.append_assoc, List.append_assoc, List.append_assoc, List.append_assoc] at h
  obtain ⟨h1, h2⟩ := encs_inj [k.n 10, k.n 0, k.n 1] [k'.n 10, k'.n 0, k'.n 1] _ _ rfl (hin k hf) (hin k' hf') h
  obtain ⟨h3, h4⟩ := encs_inj _ _ _ _ (by simp) (hir k 2 (by omega) hf) (hir k' 2 (by omega) hf') h2
  obtain ⟨h5, h6⟩ := encs_inj _ _ _ _ (by simp) (hir k 6 (by omega) hf) (hir k' 6 (by omega) hf') h4
  have hr := hf.rep
  have hr' := hf'.rep
  obtain ⟨h7, h8⟩ := enc_inj (n := (k.reply.size : Int)) (m := (k'.reply.size : Int)) (by omega) (by omega) (by simpa using h6)
  simp only [List.cons.injEq, and_true] at h1
  refine ⟨h1.1, h1.2.1, h1.2.2, fun i hi => ⟨?_, ?_⟩, ?_⟩
  · have := congrArg (fun l : List Int => l[i]?) h3
    simpa [hi] using this
  · have := congrArg (fun l : List Int => l[i]?) h5
    simpa [hi] using this
  · exact ByteArray.ext (Array.toList_inj.1 h8)
/-- All that is told of a client. -/
def toldEq (k k' : Kt) : Bool := accEq k k' && (k.n 10 == k'.n 10 && k.reply.toList == k'.reply.toList)
theorem toldEq_iff {l l' : List Kt} (H : Inv 2 l) (H' : Inv 2 l') {i : Nat} (hi : i < l.length) (hi' : i < l'.length) : toldEq (kAt l i) (kAt l' i) = true ↔ valB (kAt l i) 2 = valB (kAt l' i) 2 := by
  constructor
  · intro h
    simp only [toldEq, accEq, Bool.and_eq_true, beq_iff_eq, ByteArray.toList_eq] at h
    obtain ⟨⟨h0, h1, ⟨h2, h3, h4, h5⟩, h6, h7, h8, h9⟩, h10, hr⟩ := h
    have hr' : (kAt l i).reply = (kAt l' i).reply := ByteArray.ext (Array.toList_inj.1 hr)
    unfold valB
    rw [show List.range 2 = [0, 1] from rfl]
    simp only [List.map_cons, List.map_nil, h0, h1, h2, h3, h6, h7, h10, hr']
  · intro h
    obtain ⟨h10, h0, h1, hi2, hr⟩ := valB_inj (H.fits hi) (H'.fits hi') 2 (by omega) h
    obtain ⟨h2, h6⟩ := hi2 0 (by omega)
    obtain ⟨h3, h7⟩ := hi2 1 (by omega)
    have n4 := H.none i hi 4 (by omega) (by omega)
    have n5 := H.none i hi 5 (by omega) (by omega)
    have m4 := H'.none i hi' 4 (by omega) (by omega)
    have m5 := H'.none i hi' 5 (by omega) (by omega)
    have p4 := H.held i hi 4 8 part4
    have p5 := H.held i hi 5 9 part5
    have q4 := H'.held i hi' 4 8 part4
    have q5 := H'.held i hi' 5 9 part5
    simp only [toldEq, accEq, Bool.and_eq_true, beq_iff_eq]
    exact ⟨⟨h0, h1, ⟨h2, h3, by omega, by omega⟩, h6, h7, by omega, by omega⟩, h10, by rw [hr]⟩
/-- Two ledgers' records are the same just if all that is told of them is. -/
theorem recs_same {l l' : List Kt} (H : Inv 2 l) (H' : Inv 2 l') (hl : l.length = 3) (hl' : l'.length = 3) : sameRc (recs 2 l) (recs 2 l') = (toldEq (kAt l 0) (kAt l' 0) && toldEq (kAt l 1) (kAt l' 1) && toldEq (kAt l 2) (kAt l' 2)) := by
  rw [Bool.eq_iff_iff, sameRc_iff]
  simp only [Bool.and_eq_true]
  rw [toldEq_iff H H' (by omega) (by omega), toldEq_iff H H' (by omega) (by omega), toldEq_iff H H' (by omega) (by omega)]
  unfold recs
  rw [hl, hl', show List.range 3 = [0, 1, 2] from rfl]
  simp only [List.map_cons, List.map_nil, recOf, List.cons.injEq, Rc.mk.injEq, true_and, and_true, ByteArray.mk.injEq]
  constructor
  · rintro ⟨h0, h1, h2⟩
    exact ⟨⟨by simpa using h0, by simpa using h1⟩, by simpa using h2⟩
  · rintro ⟨⟨h0, h1⟩, h2⟩
    exact ⟨by rw [h0], by rw [h1], by rw [h2]⟩
end Go.Proofs.YtpbnimjcojeklaaDoor
