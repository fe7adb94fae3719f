/- begun: an auction behind calls; awake: the chapter's example. -/
import Derived.Test.YtgbcbjfaplogaaaCkB
import Derived.Test.YtgbcbjfaplogaaaCkT
import Derived.Test.YtgbcbjfaplogaaaCkX
import Derived.Deep.RegionHeldLaw
import Derived.Deep.RegionHeld3
namespace Go.Proofs.Ytgbcbjfaplogaaa
open Go.RowKit
set_option linter.unusedSimpArgs false
set_option linter.unusedVariables false
variable {p b : Nat} {a : Au}

theorem keepCell {w w' : World} {k o : Nat} {v : Value} (hb : Below k w w') {c : Nat} (h : w.cell? ⟨c, o, none⟩ = some v) (hc : c < k) : w'.cell? ⟨c, o, none⟩ = some v := (hb.cell (p := ⟨c, o, none⟩) hc).trans h
theorem keepOfc {w w' : World} {p b c o : Nat} {v : Value} (ho : Ofc p b w w') (h : w.cell? ⟨c, o, none⟩ = some v) (hc : c < w.heap.size) (h1 : c ≠ p) (h2 : c ≠ b) : w'.cell? ⟨c, o, none⟩ = some v :=
  (World.cell?_of_block (w := w) (a := ⟨c, o, none⟩) (ho.block c hc h1 h2)).trans h
/-- What a call makes of an auction. -/
def Au.act (a : Au) (x : Ac) : Au := if arn x.kind 3 = 2 then a.next.2.2 else (a.bid x.who x.n).2
def runs (a : Au) (ls : List Ac) : Au := ls.foldl Au.act a
theorem runs_take (a : Au) (ls : List Ac) (k : Nat) (h : k < ls.length) : runs a (ls.take (k + 1)) = (runs a (ls.take k)).act ls[k] := by
  unfold runs
  rw [List.take_succ_eq_append_getElem h, List.foldl_append]; rfl
theorem four (s : Int) (h : 0 ≤ s) (h2 : s < 300) : Au.fits (1 + s) 10 3 4 := ⟨⟨by omega, by omega⟩, ⟨by omega, by omega⟩, ⟨by omega, by omega⟩, ⟨by omega, by omega⟩⟩
def Au.four (s : Int) : Au := Au.new (1 + arn s 300) 10 3 4

set_option maxRecDepth 100000 in
set_option maxHeartbeats 1000000 in
theorem begun_calls (s : Int) (v : Value) (ls : List Ac) (w : World) (hl : Acs w v ls) (hz : ls.length * 24 ≤ 140737488351232) :
    Calls Try.prog 5 #[.int .i64 s, v] w fun e w' => ∃ p b, e = .returned (.pointer (some ⟨p, 0, none⟩)) ∧ Lc w' p b (runs (Au.four s) (ls.take 100)) ∧ Below w.heap.size w w' ∧ w.heap.size ≤ p ∧ w.heap.size ≤ b := by
  have ha := arn_ok s 300 (by omega)
  have HN : Hid _ := new_ok (1 + arn s 300) 10 3 4 w (Go.Proofs.Ytgbcbjfaplogaaa.four _ ha.1 ha.2)
  have HA : Hid _ := around_calls s 300 w (by omega) (by omega)
  have HK : Hid _ := fun z wx => around_calls z 3 wx (by omega) (by omega)
  have HF : Hid (Au.new (1 + arn s 300) 10 3 (4 : Int).toNat = runs (Au.four s) (ls.take 0)) := rfl
  obtain ⟨c, cap, rfl, hc⟩ := hl.any
  have HC : Hid _ := hc
  clear hc hl
  generalize Au.four s = A4 at *
  generalize arn s 300 = x at *
  have hw1 : IntKind.i64.wrap (1 + x) = 1 + x := by rw [IntKind.wrap_i64]; omega
  go_enter Try.func5, Try.ntmps5
  go_wp2_with fail
  refine Calls.mono HA.out ?_
  rintro e w1 ⟨rfl, rfl⟩
  go_wp2_with fail
  refine Calls.mono HN.out ?_
  rintro e w2 ⟨p, b, rfl, L2, b2, hp, hb⟩
  rw [HF.out] at L2
  clear HN HA HF
  clear ha hw1
  go_wp2
  go_loopw [7] (fun i wr => ∃ k : Nat, k ≤ ls.length ∧ k ≤ 100 ∧ i = .int .i64 k ∧ Lc wr p b (runs A4 (ls.take k)) ∧ Below w1.heap.size w1 wr) (fun i _ => ls.length - (intOf i).toNat)
  case atStart => exact ⟨0, Nat.zero_le _, by omega, rfl, L2, b2⟩
  case round =>
    obtain ⟨k, hk, hk1, rfl, Lr, br⟩ := hrel
    by_cases hgo : k < ls.length ∧ k < 100
    · obtain ⟨hlt, hlt1⟩ := hgo
      have hd1 : decide ((k : Int) < ls.length) = true := by simp only [decide_eq_true_eq]; omega
      have hd2 : decide ((k : Int) < 100) = true := by simp only [decide_eq_true_eq]; omega
      obtain ⟨q, off, hga, _, hg, hcel, _⟩ := HC.out k hlt
      subst hga
      have d0 := keepCell br (hcel 0 _ rfl) hg
      have d1 := keepCell br (hcel 1 _ rfl) hg
      have d2 := keepCell br (hcel 2 _ rfl) hg
      rw [Nat.add_zero] at d0
      have HR : Hid _ := runs_take A4 ls k hlt
      generalize ls[k] = ac at *
      clear hcel
      have HAk : Hid _ := HK.out ac.kind wr
      by_cases hkind : arn ac.kind 3 = 2
      · have hde : (arn ac.kind 3 == 2) = true := by simpa using hkind
        have HNx : Hid _ := next_calls wr Lr _ rfl
        have HR2 : Hid (runs A4 (ls.take (k + 1)) = (runs A4 (ls.take k)).next.2.2) := by show _ = _; rw [HR.out]; unfold Au.act; rw [if_pos hkind]
        clear HR hkind
        go_wp2_with fail
        refine Calls.mono HAk.out ?_
        rintro e w3 ⟨rfl, rfl⟩
        go_wp2_with fail
        refine Calls.mono HNx.out ?_
        rintro e w4 ⟨rfl, L4, O4⟩
        go_wp2
        refine ⟨⟨k + 1, by omega, by omega, by norm_cast, ?_, ?_⟩, ?_⟩
        · rw [HR2.out]; exact L4
        · exact O4.below hp hb br br.size
        · simp [intOf]; omega
      · have hde : (arn ac.kind 3 == 2) = false := by simpa using hkind
        have HBid : Hid _ := fun wx (hx : Lc wx p b (runs A4 (ls.take k))) => bid_calls wx hx ac.who ac.n _ rfl
        have HR2 : Hid (runs A4 (ls.take (k + 1)) = ((runs A4 (ls.take k)).bid ac.who ac.n).2) := by show _ = _; rw [HR.out]; unfold Au.act; rw [if_neg hkind]
        have hq1 := br.size
        have hqp : q ≠ p := by omega
        have hqb : q ≠ b := by omega
        have hki : (k : Int) < ls.length := by omega
        clear HR hkind
        go_wp2_with fail
        refine Calls.mono HAk.out ?_
        rintro e w3 ⟨rfl, rfl⟩
        have Ld := Lr.drew
        have hqs : q < w3.drew.heap.size := by show q < w3.heap.size; omega
        generalize runs A4 (ls.take k) = AK at *
        go_wp2_with fail
        refine wp_region_held_drew (S := (fun wx => wx.cell? ⟨q, off + k * 3 + 1, none⟩ = some (.int .i64 ac.who) ∧ wx.cell? ⟨q, off + k * 3 + 2, none⟩ = some (.int .i64 ac.n))) (by kernel_rfl) ⟨d1, d2⟩ (fun hS => ?_)
        refine wpAnyH_take (i := 0) (v := (.pointer (some ⟨p, 0, none⟩))) rfl (by kernel_rfl) (by kernel_rfl) (by kernel_rfl) (fun _ _ _ h => h) (Or.inl ⟨by rfl, fun w hS => by obtain ⟨s0, s1⟩ := hS; go_simp⟩) hS ?_
        refine wpAnyH_take (i := 1) (v := (.slice (some ⟨q, off, none⟩) ls.length cap)) rfl (by kernel_rfl) (by kernel_rfl) (by kernel_rfl) (fun _ _ _ h => h) (Or.inl ⟨by rfl, fun w hS => by obtain ⟨s0, s1⟩ := hS; go_simp⟩) hS ?_
        refine wpAnyH_take (i := 2) (v := (.int .i64 (k : Int))) rfl (by kernel_rfl) (by kernel_rfl) (by kernel_rfl) (fun _ _ _ h => h) (Or.inl ⟨by rfl, fun w hS => by obtain ⟨s0, s1⟩ := hS; go_simp⟩) hS ?_
        refine wpAnyH_take (i := 3) (v := (.pointer (some ⟨q, off + k * 3, none⟩))) rfl (by kernel_rfl) (by kernel_rfl) (by kernel_rfl) (fun _ _ _ h => h) (Or.inl ⟨by rfl, fun w hS => by obtain ⟨s0, s1⟩ := hS; go_simp⟩) hS ?_
        refine wpAnyH_take (i := 4) (v := (.pointer (some ⟨q, off + k * 3 + 1, none⟩))) rfl (by kernel_rfl) (by kernel_rfl) (by kernel_rfl) (fun _ _ _ h => h) (Or.inl ⟨by rfl, fun w hS => by obtain ⟨s0, s1⟩ := hS; go_simp⟩) hS ?_
        refine wpAnyH_take (i := 5) (v := (.int .i64 ac.who)) rfl (by kernel_rfl) (by kernel_rfl) (by kernel_rfl) (fun _ _ _ h => h) (Or.inl ⟨by rfl, fun w hS => by obtain ⟨s0, s1⟩ := hS; go_simp⟩) hS ?_
        refine wpAnyH_take (i := 6) (v := (.slice (some ⟨q, off, none⟩) ls.length cap)) rfl (by kernel_rfl) (by kernel_rfl) (by kernel_rfl) (fun _ _ _ h => h) (Or.inl ⟨by rfl, fun w hS => by obtain ⟨s0, s1⟩ := hS; go_simp⟩) hS ?_
        refine wpAnyH_take (i := 7) (v := (.int .i64 (k : Int))) rfl (by kernel_rfl) (by kernel_rfl) (by kernel_rfl) (fun _ _ _ h => h) (Or.inl ⟨by rfl, fun w hS => by obtain ⟨s0, s1⟩ := hS; go_simp⟩) hS ?_
        refine wpAnyH_take (i := 8) (v := (.pointer (some ⟨q, off + k * 3, none⟩))) rfl (by kernel_rfl) (by kernel_rfl) (by kernel_rfl) (fun _ _ _ h => h) (Or.inl ⟨by rfl, fun w hS => by obtain ⟨s0, s1⟩ := hS; go_simp⟩) hS ?_
        refine wpAnyH_take (i := 9) (v := (.pointer (some ⟨q, off + k * 3 + 2, none⟩))) rfl (by kernel_rfl) (by kernel_rfl) (by kernel_rfl) (fun _ _ _ h => h) (Or.inl ⟨by rfl, fun w hS => by obtain ⟨s0, s1⟩ := hS; go_simp⟩) hS ?_
        refine wpAnyH_take (i := 10) (v := (.int .i64 ac.n)) rfl (by kernel_rfl) (by kernel_rfl) (by kernel_rfl) (fun _ _ _ h => h) (Or.inl ⟨by rfl, fun w hS => by obtain ⟨s0, s1⟩ := hS; go_simp⟩) hS ?_
        refine wpAnyH_ready (rs := [11]) (by kernel_rfl) (by simp) ?_
        refine AllReadyH.cons rfl (fun K hK => ?_) AllReadyH.nil
        go_simp
        refine Calls.mono (HBid.out _ Ld) ?_
        rintro e w2 ⟨rfl, L2, O2⟩
        refine hK.out _ _ ⟨keepOfc O2 hS.1 hqs hqp hqb, keepOfc O2 hS.2 hqs hqp hqb⟩ (fun hS => ?_)
        clear hK
        refine wpAnyH_done (by kernel_rfl) ?_ _
        go_wp2
        refine ⟨⟨k + 1, by omega, by omega, by norm_cast, ?_, ?_⟩, ?_⟩
        · rw [HR2.out]; exact L2
        · exact O2.below hp hb (br.trans (Below.refl _ _).drew) hq1
        · simp [intOf]; omega
    · have htk : ls.take k = ls.take 100 := by
        by_cases h1 : k < ls.length
        · have : k = 100 := by omega
          rw [this]
        · rw [List.take_of_length_le (by omega), List.take_of_length_le (by omega)]
      rw [htk] at Lr
      by_cases h1 : k < ls.length
      · have hd1 : decide ((k : Int) < ls.length) = true := by simp only [decide_eq_true_eq]; omega
        have hd2 : decide ((k : Int) < 100) = false := by simp only [decide_eq_false_iff_not]; omega
        go_wp2
        go_ret
        exact ⟨p, b, rfl, Lr, br, hp, hb⟩
      · have hd1 : decide ((k : Int) < ls.length) = false := by simp only [decide_eq_false_iff_not]; omega
        go_wp2
        go_ret
        exact ⟨p, b, rfl, Lr, br, hp, hb⟩

def ex0 : Au := Au.new 5 10 2 2
def ex1 : Au := (ex0.bid 0 4).2
def ex2 : Au := (ex1.bid 1 3).2
def ex3 : Au := ex2.next.2.2
def ex4 : Au := (ex3.bid 0 1).2
def ex5 : Au := ex4.next.2.2
set_option maxRecDepth 100000 in
set_option maxHeartbeats 1000000 in
theorem awake_calls (w : World) : Calls Try.prog 13 #[] w fun e w' => e = .returned (.bool true) ∧ Below w.heap.size w w' := by
  have HN : Hid _ := new_ok 5 10 2 2 w ⟨⟨by omega, by omega⟩, ⟨by omega, by omega⟩, ⟨by omega, by omega⟩, ⟨by omega, by omega⟩⟩
  go_enter Try.func13, Try.ntmps13
  go_wp2_with fail
  refine Calls.mono HN.out ?_
  rintro e w1 ⟨p, b, rfl, L1, b1, hp, hb⟩
  have L1' : Lc w1 p b ex0 := L1
  clear L1 HN
  have HP : Hid _ := bid_calls w1 L1' 0 4 (0, ex1) (by kernel_rfl)
  go_wp2_with fail
  refine Calls.mono HP.out ?_
  rintro e w2 ⟨rfl, L2, o2⟩
  have L2' : Lc w2 p b ex1 := L2
  clear L2 HP
  have HP : Hid _ := bid_calls w2 L2' 1 3 (0, ex2) (by kernel_rfl)
  go_wp2_with fail
  refine Calls.mono HP.out ?_
  rintro e w3 ⟨rfl, L3, o3⟩
  have L3' : Lc w3 p b ex2 := L3
  clear L3 HP
  have HP : Hid _ := next_calls w3 L3' (false, 0, ex3) (by kernel_rfl)
  go_wp2_with fail
  refine Calls.mono HP.out ?_
  rintro e w4 ⟨rfl, L4, o4⟩
  have L4' : Lc w4 p b ex3 := L4
  clear L4 HP
  have HP := price_calls w4 L4'
  rw [show ex3.price = 12 by kernel_rfl] at HP
  go_wp2_with fail
  refine HP.mono ?_
  rintro e w5 ⟨rfl, b5⟩
  clear HP
  have L5 := L4'.below b5
  have HP : Hid _ := bid_calls w5 L5 0 5 (71, ex3) (by kernel_rfl)
  go_wp2_with fail
  refine Calls.mono HP.out ?_
  rintro e w6 ⟨rfl, L6, o6⟩
  have L6' : Lc w6 p b ex3 := L6
  clear L6 HP
  have HP : Hid _ := bid_calls w6 L6' 0 1 (0, ex4) (by kernel_rfl)
  go_wp2_with fail
  refine Calls.mono HP.out ?_
  rintro e w7 ⟨rfl, L7, o7⟩
  have L7' : Lc w7 p b ex4 := L7
  clear L7 HP
  have HP : Hid _ := next_calls w7 L7' (true, 0, ex5) (by kernel_rfl)
  go_wp2_with fail
  refine Calls.mono HP.out ?_
  rintro e w8 ⟨rfl, L8, o8⟩
  have L8' : Lc w8 p b ex5 := L8
  clear L8 HP
  have HP := sale_over w8 L8' (by show (1 : Int) ≠ 0; omega)
  rw [show ex5.saleP = 10 by kernel_rfl, show ex5.saleL = [2, 3] by kernel_rfl, show ex5.ds.length = 2 by kernel_rfl] at HP
  go_wp2_with fail
  refine HP.mono ?_
  rintro e w9 ⟨rfl, X9, b9⟩
  have c0 : w9.cell? ⟨w8.heap.size, 0, none⟩ = some (.int .i64 2) := X9.cell rfl
  have c1 : w9.cell? ⟨w8.heap.size, 1, none⟩ = some (.int .i64 3) := X9.cell rfl
  have hB : Hid (Below w.heap.size w w9) := by
    show Below _ _ _
    have h4 := ((o2.trans o3).trans o4).below hp hb b1 b1.size
    have z4 := h4.size
    have h5 := h4.trans (b5.mono z4)
    have h8 := ((o6.trans o7).trans o8).below hp hb h5 h5.size
    exact h8.trans (b9.mono h8.size)
  clear b9 o2 o3 o4 o6 o7 o8 X9 HP
  go_wp2
  go_ret
  exact ⟨rfl, hB.out⟩
end Go.Proofs.Ytgbcbjfaplogaaa
