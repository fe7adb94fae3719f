/- What is traded at a price; the price at which most is. -/
import Derived.Test.YtpekfpfhonechaaGreatHw20
import Derived.Deep.RegionHeldLaw
import Derived.Deep.RegionHeld3
namespace Go.Proofs.YtpekfpfhonechaaGreat.Cal
open Go.Shelf Go.RowKit Go.Lib Go.Sort
set_option linter.unusedSimpArgs false
set_option linter.unusedVariables false

theorem may_am {o : Od} (h : mayB o = true) : 1 ≤ o.am ∧ o.am ≤ 1048576 := by
  unfold mayB at h
  simp only [Bool.and_eq_true, decide_eq_true_eq] at h
  exact h.2
theorem amt_bd : ∀ l : List Od, (∀ o ∈ l, 1 ≤ o.am ∧ o.am ≤ 1048576) → 0 ≤ amt l ∧ amt l ≤ 1048576 * (l.length : Int)
  | [], _ => by simp [amt]
  | o :: l, h => by
    have h1 := h o (List.mem_cons_self ..)
    have h2 := amt_bd l (fun x hx => h x (List.mem_cons_of_mem _ hx))
    have h3 : ((o :: l).length : Int) = (l.length : Int) + 1 := by simp
    simp only [amt]
    omega
theorem jdg_may {l : List Od} : ∀ o ∈ jdg l, mayB o = true := by
  intro o ho
  unfold jdg at ho
  split at ho
  · cases ho
  · exact (List.mem_filter.1 ho).2
theorem jdg_len (l : List Od) : (jdg l).length ≤ 64 := by
  unfold jdg
  split
  · simp
  · exact Nat.le_trans (List.length_filter_le _ _) (by omega)
/-- Judged already: each may be, no more than 64. -/
def Jd (l : List Od) : Prop := l.length ≤ 64 ∧ ∀ o ∈ l, mayB o = true
theorem jd_jdg (l : List Od) : Jd (jdg l) := ⟨jdg_len l, jdg_may⟩
theorem Jd.am {l : List Od} (h : Jd l) : ∀ o ∈ l, 1 ≤ o.am ∧ o.am ≤ 1048576 := fun o ho => may_am (h.2 o ho)
theorem Jd.filter {l : List Od} (h : Jd l) (f : Od → Bool) : Jd (l.filter f) := ⟨Nat.le_trans (List.length_filter_le _ _) h.1, fun o ho => h.2 o (List.mem_filter.1 ho).1⟩
theorem Jd.amt {l : List Od} (h : Jd l) : 0 ≤ amt l ∧ amt l ≤ 67108864 := by
  have := amt_bd l h.am
  have := h.1
  omega
theorem Jd.take {l : List Od} (h : Jd l) (k : Nat) : Jd (l.take k) := ⟨by simp; have := h.1; omega, fun o ho => h.2 o (List.mem_of_mem_take ho)⟩
theorem Jd.trd {l : List Od} (h : Jd l) (p : Int) : 0 ≤ trd l p ∧ trd l p ≤ 67108864 := by
  have h1 := (h.filter (bAt p)).amt
  have h2 := (h.filter (sAt p)).amt
  unfold Go.Proofs.YtpekfpfhonechaaGreat.Cal.trd
  omega

set_option maxHeartbeats 4000000 in
set_option maxRecDepth 100000 in
theorem total_calls (f : Od → Bool) (g : Nat) (cb : Array Value) (v : Value) (l : List Od) (w : World) (eg : ∀ args w, (callFunc g args).run Tryz.prog w = .ok (.enter g args) w) (hl : Ods w v l) (hj : Jd l)
    (hf : ∀ o wx, Below w.heap.size w wx → Calls Tryz.prog g (#[.agg (oC o).toArray] ++ cb) wx fun e w' => e = .returned (.bool (f o)) ∧ Below wx.heap.size wx w') :
    Calls Tryz.prog 147 #[v, .func (.func g) #[] cb] w fun e w' => e = .returned (.int .i64 (amt (l.filter f))) ∧ Below w.heap.size w w' := by
  have HP : Hid _ := pick_calls f g cb v l w eg hl (by have := hj.1; omega) hf
  have HJ : Hid (Jd (l.filter f)) := hj.filter f
  obtain ⟨p, cap, rfl, hc⟩ := hl
  generalize l.filter f = J at *
  clear hf hc hj
  go_enter Tryz.func147, Tryz.ntmps147
  go_wp2_with fail
  refine Calls.mono HP.out ?_
  rintro e w1 ⟨v1, rfl, own1, b1⟩
  obtain ⟨oc, ocap, rfl⟩ := own_form own1
  have HD : Hid _ := ods_own own1
  clear own1
  go_wp2
  go_loopw [5, 12] (fun nv i wr => ∃ k : Nat, k ≤ J.length ∧ i = .int .i64 k ∧ nv = .int .i64 (amt (J.take k)) ∧ Below w1.heap.size w1 wr) (fun _ i _ => J.length - (intOf i).toNat)
  case atStart => exact ⟨0, Nat.zero_le _, rfl, by simp [amt], Below.refl _ _⟩
  case round =>
    obtain ⟨k, hk, rfl, rfl, hb⟩ := hrel
    have hz := hb.size
    have hJ64 := HJ.out.1
    by_cases hlt : k < J.length
    · have hd : decide ((k : Int) < J.length) = true := by simp only [decide_eq_true_eq]; omega
      obtain ⟨o, ho⟩ : ∃ o, J[k]? = some o := ⟨J[k], by simp [hlt]⟩
      obtain ⟨p', cap', hv, hcs⟩ := HD.out
      injection hv with hv1 hv2 hv3
      subst hv1 hv3
      rcases hcs with hnil | ⟨gb, off, hp, hcs⟩
      · exfalso; rw [hnil] at hlt; simp at hlt
      subst hp
      obtain ⟨c0, c1, c2, c3, c4, c5⟩ := Ods.six hcs ho
      have hbl := World.block_lt_of_cell? w1 _ c0
      have d0 := (hb.cell (p := ⟨gb, off + k * 6, none⟩) hbl).trans c0
      have d1 := (hb.cell (p := ⟨gb, off + k * 6 + 1, none⟩) hbl).trans c1
      have d2 := (hb.cell (p := ⟨gb, off + k * 6 + 2, none⟩) hbl).trans c2
      have d3 := (hb.cell (p := ⟨gb, off + k * 6 + 3, none⟩) hbl).trans c3
      have d4 := (hb.cell (p := ⟨gb, off + k * 6 + 4, none⟩) hbl).trans c4
      have d5 := (hb.cell (p := ⟨gb, off + k * 6 + 5, none⟩) hbl).trans c5
      have HT : Hid (amt (J.take (k + 1)) = amt (J.take k) + o.am) := by show _ = _; rw [take_odd ho, amt_app]; simp [amt]
      have a1 := (HJ.out.take k).amt
      have a2 := HJ.out.am o (List.mem_of_getElem? ho)
      generalize amt (J.take k) = A at *
      generalize o.am = x3 at *
      clear c0 c1 c2 c3 c4 c5 hcs ho
      go_wp2
      refine ⟨⟨k + 1, by omega, by norm_cast, by rw [HT.out], hb.alloc (by omega) _⟩, by simp [intOf]; omega⟩
    · have hd : decide ((k : Int) < J.length) = false := by simp only [decide_eq_false_iff_not]; omega
      have htk : J.take k = J := List.take_of_length_le (by omega)
      rw [htk]
      go_wp2
      go_ret
      exact ⟨rfl, b1.trans (hb.mono b1.size)⟩

set_option maxHeartbeats 4000000 in
set_option maxRecDepth 100000 in
theorem traded_calls (v : Value) (l : List Od) (p : Int) (w : World) (hl : Ods w v l) (hj : Jd l) : Calls Tryz.prog 134 #[v, .int .i64 p] w fun e w' => e = .returned (.int .i64 (trd l p)) ∧ Below w.heap.size w w' := by
  have HL : Hid _ := hl
  have HJ : Hid _ := hj
  obtain ⟨pp, cap, rfl, hc⟩ := hl
  have h1 := (hj.filter (bAt p)).amt
  have h2 := (hj.filter (sAt p)).amt
  have e1 : ∀ args w, (callFunc 151 args).run Tryz.prog w = .ok (.enter 151 args) w := by intro args w; kernel_rfl
  have e2 : ∀ args w, (callFunc 153 args).run Tryz.prog w = .ok (.enter 153 args) w := by intro args w; kernel_rfl
  have E1 : Hid _ := e1
  have E2 : Hid _ := e2
  have HT : Hid (trd l p = min (amt (l.filter (bAt p))) (amt (l.filter (sAt p)))) := rfl
  have HB : Hid _ := fun (w : World) (hl : Ods w (.slice pp l.length cap) l) => total_calls (bAt p) 151
  clear hc hj e1 e2 HB
  go_enter Tryz.func134, Tryz.ntmps134
  go_wp2_with fail
  refine (buysAt_calls p w).mono ?_
  rintro e w1 ⟨rfl, c1, g1⟩
  have L1 := Ods.below HL.out g1.below
  have HC1 : Hid _ := total_calls (bAt p) 151 #[.pointer (some ⟨w.heap.size, 0, none⟩)] _ l w1 E1.out L1 HJ.out (fun o wx hb => (buysAt1_calls o p w.heap.size wx ((hb.cell (World.block_lt_of_cell? w1 _ c1)).trans c1)).mono fun _ _ h => ⟨h.1, h.2.below⟩)
  clear L1
  go_wp2_with fail
  refine Calls.mono HC1.out ?_
  rintro e w2 ⟨rfl, b2⟩
  have B2 := g1.below.trans (b2.mono g1.below.size)
  go_wp2_with fail
  refine (sellsAt_calls p w2).mono ?_
  rintro e w3 ⟨rfl, c3, g3⟩
  have B3 := B2.trans (g3.below.mono B2.size)
  have L3 := Ods.below HL.out B3
  have HC3 : Hid _ := total_calls (sAt p) 153 #[.pointer (some ⟨w2.heap.size, 0, none⟩)] _ l w3 E2.out L3 HJ.out (fun o wx hb => (sellsAt1_calls o p w2.heap.size wx ((hb.cell (World.block_lt_of_cell? w3 _ c3)).trans c3)).mono fun _ _ h => ⟨h.1, h.2.below⟩)
  clear L3
  generalize amt (l.filter (bAt p)) = x at *
  generalize amt (l.filter (sAt p)) = y at *
  go_wp2_with fail
  refine Calls.mono HC3.out ?_
  rintro e w4 ⟨rfl, b4⟩
  have B4 := B3.trans (b4.mono B3.size)
  by_cases hxy : x ≤ y
  · rw [show min x y = x by omega] at HT
    go_wp2
    go_ret
    exact ⟨by rw [HT.out]; simp; omega, B4⟩
  · rw [show min x y = y by omega] at HT
    go_wp2
    go_ret
    exact ⟨by rw [HT.out]; simp; omega, B4⟩

set_option maxHeartbeats 4000000 in
set_option maxRecDepth 100000 in
theorem judged_calls (v : Value) (l : List Od) (w : World) (hl : Ods w v l) (hn : l.length ≤ 2932031007402) :
    Calls Tryz.prog 133 #[v] w fun e w' => ∃ v', e = .returned v' ∧ w'.ownsRow w.heap.size 51 6 v' (jdg l).length (odL (jdg l)) ∧ Below w.heap.size w w' := by
  have e1 : ∀ args w, (callFunc 110 args).run Tryz.prog w = .ok (.enter 110 args) w := by intro args w; kernel_rfl
  have HP : Hid _ := pick_calls mayB 110 #[] v l w e1 hl hn (fun o wx hb => (mayBe_calls o wx).mono fun _ _ h => ⟨h.1, h.2.below⟩)
  obtain ⟨pp, cap, rfl, hc⟩ := hl
  clear hc e1
  by_cases h64 : 64 < l.length
  · have hd : decide (64 < (l.length : Int)) = true := by simp only [decide_eq_true_eq]; omega
    have hj : jdg l = [] := by unfold jdg; rw [if_pos h64]
    rw [hj]
    go_enter Tryz.func133, Tryz.ntmps133
    go_wp2
    go_ret
    exact ⟨_, rfl, World.ownsRow_nil _ _ _ _, Below.refl _ _⟩
  · have hd : decide (64 < (l.length : Int)) = false := by simp only [decide_eq_false_iff_not]; omega
    have hj : jdg l = l.filter mayB := by unfold jdg; rw [if_neg h64]
    rw [hj]
    go_enter Tryz.func133, Tryz.ntmps133
    go_wp2_with fail
    refine Calls.mono HP.out ?_
    rintro e w1 ⟨v1, rfl, own1, b1⟩
    obtain ⟨oc, ocap, rfl⟩ := own_form own1
    have HO : Hid _ := own1
    clear own1
    go_wp2
    go_ret
    exact ⟨_, rfl, HO.out, b1⟩

theorem crs_bd (J : List Od) (hj : Jd J) : ∀ (k : Nat), 0 ≤ ((J.take k).foldl (crS J) (0, 0)).2 ∧ ((J.take k).foldl (crS J) (0, 0)).2 ≤ 67108864 := by
  intro k
  induction k with
  | zero => simp
  | succ k ih =>
    rcases Nat.lt_or_ge k J.length with h | h
    · rw [List.take_succ_eq_append_getElem h, List.foldl_append]
      simp only [List.foldl_cons, List.foldl_nil]
      generalize (J.take k).foldl (crS J) (0, 0) = s at *
      unfold crS
      split
      · exact hj.trd _
      · exact ih
    · rw [List.take_of_length_le (by omega)]
      rw [List.take_of_length_le (by omega)] at ih
      exact ih

set_option maxHeartbeats 4000000 in
set_option maxRecDepth 100000 in
theorem cross_calls (v : Value) (l : List Od) (w : World) (hl : Ods w v l) (hn : l.length ≤ 2932031007402) :
    Calls Tryz.prog 116 #[v] w fun e w' => e = .returned (.tuple #[.int .i64 (crs l).1, .int .i64 (crs l).2]) ∧ Below w.heap.size w w' := by
  have HP : Hid _ := judged_calls v l w hl hn
  have HJ : Hid _ := jd_jdg l
  have HE : Hid (crs l = (jdg l).foldl (crS (jdg l)) (0, 0)) := rfl
  obtain ⟨pp, cap, rfl, hc⟩ := hl
  generalize crs l = R at *
  generalize jdg l = J at *
  clear hc
  go_enter Tryz.func116, Tryz.ntmps116
  go_wp2_with fail
  refine Calls.mono HP.out ?_
  rintro e w1 ⟨v1, rfl, own1, b1⟩
  obtain ⟨oc, ocap, rfl⟩ := own_form own1
  have HD : Hid _ := ods_own own1
  clear own1
  go_wp2
  go_loopw [2, 3, 11] (fun pv nv i wr => ∃ k : Nat, k ≤ J.length ∧ i = .int .i64 k ∧ pv = .int .i64 ((J.take k).foldl (crS J) (0, 0)).1 ∧ nv = .int .i64 ((J.take k).foldl (crS J) (0, 0)).2 ∧ Below w1.heap.size w1 wr) (fun _ _ i _ => J.length - (intOf i).toNat)
  case atStart => exact ⟨0, Nat.zero_le _, rfl, by simp, by simp, Below.refl _ _⟩
  case round =>
    obtain ⟨k, hk, rfl, rfl, rfl, hb⟩ := hrel
    have hz := hb.size
    have hJ64 := HJ.out.1
    by_cases hlt : k < J.length
    · have hd : decide ((k : Int) < J.length) = true := by simp only [decide_eq_true_eq]; omega
      obtain ⟨o, ho⟩ : ∃ o, J[k]? = some o := ⟨J[k], by simp [hlt]⟩
      obtain ⟨p', cap', hv, hcs⟩ := HD.out
      injection hv with hv1 hv2 hv3
      subst hv1 hv3
      rcases hcs with hnil | ⟨gb, off, hp, hcs⟩
      · exfalso; rw [hnil] at hlt; simp at hlt
      subst hp
      obtain ⟨c0, c1, c2, c3, c4, c5⟩ := Ods.six hcs ho
      have hbl := World.block_lt_of_cell? w1 _ c0
      have d0 := (hb.cell (p := ⟨gb, off + k * 6, none⟩) hbl).trans c0
      have d1 := (hb.cell (p := ⟨gb, off + k * 6 + 1, none⟩) hbl).trans c1
      have d2 := (hb.cell (p := ⟨gb, off + k * 6 + 2, none⟩) hbl).trans c2
      have d3 := (hb.cell (p := ⟨gb, off + k * 6 + 3, none⟩) hbl).trans c3
      have d4 := (hb.cell (p := ⟨gb, off + k * 6 + 4, none⟩) hbl).trans c4
      have d5 := (hb.cell (p := ⟨gb, off + k * 6 + 5, none⟩) hbl).trans c5
      have HT : Hid ((J.take (k + 1)).foldl (crS J) (0, 0) = crS J ((J.take k).foldl (crS J) (0, 0)) o) := by show _ = _; rw [take_odd ho, List.foldl_append]; rfl
      have a1 := crs_bd J HJ.out k
      have a2 := Jd.trd HJ.out o.pr
      obtain ⟨W1, hW1, XM, B1, Z1⟩ : ∃ W1, (wr.alloc (.cells #[.int .i64 o.id, .int .i64 o.own, .int .i64 o.pr, .int .i64 o.am, .int .i64 o.pl, .bool o.by] 51)) = W1 ∧ Blk W1 wr.heap.size (oC o).toArray 51 ∧ Below wr.heap.size wr W1 ∧ W1.heap.size = wr.heap.size + 1 :=
        ⟨_, rfl, blk_new _ _ _ _ rfl, by go_grown, by simp⟩
      have HC : Hid _ := traded_calls _ J o.pr W1 (Ods.below HD.out (hb.trans (B1.mono hz))) HJ.out
      have e2 : W1.cell? ⟨wr.heap.size, 2, none⟩ = some (.int .i64 o.pr) := XM.cell rfl
      have HCR : Hid (crS J ((J.take k).foldl (crS J) (0, 0)) o = if ((J.take k).foldl (crS J) (0, 0)).2 < trd J o.pr ∨ (trd J o.pr = ((J.take k).foldl (crS J) (0, 0)).2 ∧ o.pr < ((J.take k).foldl (crS J) (0, 0)).1) then (o.pr, trd J o.pr) else (J.take k).foldl (crS J) (0, 0)) := rfl
      clear c0 c1 c2 c3 c4 c5 hcs ho
      generalize (J.take k).foldl (crS J) (0, 0) = S1 at *
      obtain ⟨sp, sn⟩ := S1
      generalize trd J o.pr = T at *
      generalize crS J (sp, sn) o = S3 at *
      simp only at a1 HCR
      generalize hop : o.pr = x2 at *
      clear hop
      by_cases t1 : sn < T
      · have q1 : decide (sn < T) = true := decide_eq_true t1
        rw [if_pos (Or.inl t1)] at HCR
        go_wp2_with fail
        refine Calls.mono HC.out ?_
        rintro e w3 ⟨rfl, b3⟩
        have e3 : w3.cell? ⟨wr.heap.size, 2, none⟩ = some (.int .i64 x2) := (b3.cell (p := ⟨wr.heap.size, 2, none⟩) XM.lt).trans e2
        clear hW1
        go_wp2
        refine ⟨⟨k + 1, by omega, by norm_cast, by rw [HT.out, HCR.out], by rw [HT.out, HCR.out], hb.trans ((B1.trans (b3.mono (by omega))).mono hz)⟩, by simp [intOf]; omega⟩
      · have q1 : decide (sn < T) = false := decide_eq_false t1
        by_cases t2 : T = sn
        · have q2 : (T == sn) = true := by simpa using t2
          by_cases t3 : x2 < sp
          · have q3 : decide (x2 < sp) = true := decide_eq_true t3
            rw [if_pos (Or.inr ⟨t2, t3⟩)] at HCR
            have HE2 : Hid _ := t2
            clear t2
            go_wp2_with fail
            refine Calls.mono HC.out ?_
            rintro e w3 ⟨rfl, b3⟩
            have e3 : w3.cell? ⟨wr.heap.size, 2, none⟩ = some (.int .i64 x2) := (b3.cell (p := ⟨wr.heap.size, 2, none⟩) XM.lt).trans e2
            clear hW1
            go_wp2
            refine ⟨⟨k + 1, by omega, by norm_cast, by rw [HT.out, HCR.out], by rw [HT.out, HCR.out], hb.trans ((B1.trans (b3.mono (by omega))).mono hz)⟩, by simp [intOf]; omega⟩
          · have q3 : decide (x2 < sp) = false := decide_eq_false t3
            rw [if_neg (by omega)] at HCR
            have HE2 : Hid _ := t2
            clear t2
            go_wp2_with fail
            refine Calls.mono HC.out ?_
            rintro e w3 ⟨rfl, b3⟩
            have e3 : w3.cell? ⟨wr.heap.size, 2, none⟩ = some (.int .i64 x2) := (b3.cell (p := ⟨wr.heap.size, 2, none⟩) XM.lt).trans e2
            clear hW1
            go_wp2
            refine ⟨⟨k + 1, by omega, by norm_cast, by rw [HT.out, HCR.out], by rw [HT.out, HCR.out], hb.trans ((B1.trans (b3.mono (by omega))).mono hz)⟩, by simp [intOf]; omega⟩
        · have q2 : (T == sn) = false := by simpa using t2
          rw [if_neg (by omega)] at HCR
          go_wp2_with fail
          refine Calls.mono HC.out ?_
          rintro e w3 ⟨rfl, b3⟩
          have e3 : w3.cell? ⟨wr.heap.size, 2, none⟩ = some (.int .i64 x2) := (b3.cell (p := ⟨wr.heap.size, 2, none⟩) XM.lt).trans e2
          clear hW1
          go_wp2
          refine ⟨⟨k + 1, by omega, by norm_cast, by rw [HT.out, HCR.out], by rw [HT.out, HCR.out], hb.trans ((B1.trans (b3.mono (by omega))).mono hz)⟩, by simp [intOf]; omega⟩
    · have hd : decide ((k : Int) < J.length) = false := by simp only [decide_eq_false_iff_not]; omega
      have htk : J.take k = J := List.take_of_length_le (by omega)
      rw [htk, ← HE.out]
      go_wp2
      go_ret2
      exact ⟨rfl, b1.trans (hb.mono b1.size)⟩
end Go.Proofs.YtpekfpfhonechaaGreat.Cal

namespace Go.Proofs.YtpekfpfhonechaaGreat.Cal
open Go.Shelf Go.RowKit Go.Lib Go.Sort
set_option linter.unusedSimpArgs false
set_option linter.unusedVariables false

set_option maxRecDepth 100000 in
theorem isNaN_calls (x : Int) (w : World) : Calls Tryz.prog 152 #[.int .i64 x] w fun e w' => e = .returned (.bool false) ∧ w' = w := by
  have h : (x != x) = false := by simp
  go_enter Tryz.func152, Tryz.ntmps152
  go_wp2
  go_ret
  exact ⟨rfl, rfl⟩
set_option maxRecDepth 100000 in
theorem compare_calls (x y : Int) (w : World) : Calls Tryz.prog 138 #[.int .i64 x, .int .i64 y] w fun e w' => e = .returned (.int .i64 (cmI x y)) ∧ w' = w := by
  have hA : cmI x y = if x < y then -1 else if y < x then 1 else 0 := rfl
  generalize cmI x y = A at *
  have HA : Hid _ := hA
  clear hA
  by_cases h1 : x < y
  · have d1 : decide (x < y) = true := decide_eq_true h1
    rw [if_pos h1] at HA
    go_enter Tryz.func138, Tryz.ntmps138
    go_wp2_with fail
    refine (isNaN_calls x _).mono ?_
    rintro e w1 ⟨rfl, rfl⟩
    go_wp2_with fail
    refine (isNaN_calls y _).mono ?_
    rintro e w1 ⟨rfl, rfl⟩
    go_wp2
    go_ret
    exact ⟨by rw [HA.out]; rfl, rfl⟩
  · have d1 : decide (x < y) = false := decide_eq_false h1
    rw [if_neg h1] at HA
    by_cases h2 : y < x
    · have d2 : decide (y < x) = true := decide_eq_true h2
      rw [if_pos h2] at HA
      go_enter Tryz.func138, Tryz.ntmps138
      go_wp2_with fail
      refine (isNaN_calls x _).mono ?_
      rintro e w1 ⟨rfl, rfl⟩
      go_wp2_with fail
      refine (isNaN_calls y _).mono ?_
      rintro e w1 ⟨rfl, rfl⟩
      go_wp2
      go_ret
      exact ⟨by rw [HA.out]; rfl, rfl⟩
    · have d2 : decide (y < x) = false := decide_eq_false h2
      rw [if_neg h2] at HA
      go_enter Tryz.func138, Tryz.ntmps138
      go_wp2_with fail
      refine (isNaN_calls x _).mono ?_
      rintro e w1 ⟨rfl, rfl⟩
      go_wp2_with fail
      refine (isNaN_calls y _).mono ?_
      rintro e w1 ⟨rfl, rfl⟩
      go_wp2
      go_ret
      exact ⟨by rw [HA.out]; rfl, rfl⟩

set_option maxRecDepth 100000 in
set_option maxHeartbeats 1000000 in
theorem or_calls (x y : Int) (b : Nat) (w : World) (c0 : w.cell? ⟨b, 0, none⟩ = some (.int .i64 x)) (c1 : w.cell? ⟨b, 1, none⟩ = some (.int .i64 y)) : Calls Tryz.prog 150 #[.slice (some ⟨b, 0, none⟩) 2 2] w fun e w' => e = .returned (.int .i64 (cOr x y)) ∧ w' = w := by
  have hA : cOr x y = if x = 0 then y else x := rfl
  generalize cOr x y = A at *
  have HA : Hid _ := hA
  clear hA
  by_cases h : x = 0
  · subst h
    rw [if_pos rfl] at HA
    by_cases h2 : y = 0
    · subst h2
      go_enter Tryz.func150, Tryz.ntmps150
      go_wp2
      refine wp_loop_rounds 3 ?_
      rw [rounds_succ]
      go_wp2
      rw [rounds_succ]
      go_wp2
      rw [rounds_succ]
      go_wp2
      go_ret
      exact ⟨by rw [HA.out]; rfl, rfl⟩
    · have hd : (y == 0) = false := by simpa using h2
      go_enter Tryz.func150, Tryz.ntmps150
      go_wp2
      refine wp_loop_rounds 2 ?_
      rw [rounds_succ]
      go_wp2
      rw [rounds_succ]
      go_wp2
      go_ret
      exact ⟨by rw [HA.out]; rfl, rfl⟩
  · have hd : (x == 0) = false := by simpa using h
    rw [if_neg h] at HA
    go_enter Tryz.func150, Tryz.ntmps150
    go_wp2
    refine wp_loop_rounds 1 ?_
    rw [rounds_succ]
    go_wp2
    go_ret
    exact ⟨by rw [HA.out]; rfl, rfl⟩

set_option maxRecDepth 100000 in
set_option maxHeartbeats 1000000 in
theorem by1_calls (a b : Od) (w : World) : Calls Tryz.prog 137 #[.agg (oC a).toArray, .agg (oC b).toArray] w fun e w' => e = .returned (.int .i64 (cmI b.pr a.pr)) ∧ Gr w w' := by
  have h := fun w => compare_calls b.pr a.pr w
  unfold oC
  generalize a.id = a1 at *
  generalize a.own = a2 at *
  generalize a.pr = a3 at *
  generalize a.am = a4 at *
  generalize a.pl = a5 at *
  generalize a.by = a6 at *
  generalize b.id = b1 at *
  generalize b.own = b2 at *
  generalize b.pr = b3 at *
  generalize b.am = b4 at *
  generalize b.pl = b5 at *
  generalize b.by = b6 at *
  go_enter Tryz.func137, Tryz.ntmps137
  go_wp2_with fail
  refine (h _).mono ?_
  rintro e w1 ⟨rfl, rfl⟩
  go_wp2
  go_ret
  exact ⟨rfl, ((Gr.refl _).alloc _).alloc _⟩

set_option maxRecDepth 100000 in
set_option maxHeartbeats 1000000 in
theorem by2_calls (a b : Od) (w : World) : Calls Tryz.prog 140 #[.agg (oC a).toArray, .agg (oC b).toArray] w fun e w' => e = .returned (.int .i64 (cmI a.pr b.pr)) ∧ Gr w w' := by
  have h := fun w => compare_calls a.pr b.pr w
  unfold oC
  generalize a.id = a1 at *
  generalize a.own = a2 at *
  generalize a.pr = a3 at *
  generalize a.am = a4 at *
  generalize a.pl = a5 at *
  generalize a.by = a6 at *
  generalize b.id = b1 at *
  generalize b.own = b2 at *
  generalize b.pr = b3 at *
  generalize b.am = b4 at *
  generalize b.pl = b5 at *
  generalize b.by = b6 at *
  go_enter Tryz.func140, Tryz.ntmps140
  go_wp2_with fail
  refine (h _).mono ?_
  rintro e w1 ⟨rfl, rfl⟩
  go_wp2
  go_ret
  exact ⟨rfl, ((Gr.refl _).alloc _).alloc _⟩

set_option maxRecDepth 100000 in
set_option maxHeartbeats 8000000 in
theorem fill1_calls (bp : Od → Od → Int) (fk bx : Nat) (a b : Od) (w : World) (ek : ∀ args w, (callFunc fk args).run Tryz.prog w = .ok (.enter fk args) w) (hbx : w.cell? ⟨bx, 0, none⟩ = some (.func (.func fk) #[] #[]))
    (hf : ∀ w, Calls Tryz.prog fk #[.agg (oC a).toArray, .agg (oC b).toArray] w fun e w' => e = .returned (.int .i64 (bp a b)) ∧ Gr w w') :
    Calls Tryz.prog 149 #[.agg (oC a).toArray, .agg (oC b).toArray, .pointer (some ⟨bx, 0, none⟩)] w fun e w' => e = .returned (.int .i64 (cOr (bp a b) (cmI a.pl b.pl))) ∧ Gr w w' := by
  have hp := fun w => compare_calls a.pl b.pl w
  unfold oC at hf ⊢
  generalize a.id = x1 at *
  generalize a.own = x2 at *
  generalize a.pr = x3 at *
  generalize a.am = x4 at *
  generalize a.pl = x5 at *
  generalize a.by = x6 at *
  generalize b.id = y1 at *
  generalize b.own = y2 at *
  generalize b.pr = y3 at *
  generalize b.am = y4 at *
  generalize b.pl = y5 at *
  generalize b.by = y6 at *
  generalize bp a b = cv at *
  generalize cmI x5 y5 = pv at *
  have HF : Hid _ := hf
  have HP : Hid _ := hp
  have hlt : bx < w.heap.size := World.block_lt_of_cell? w _ hbx
  clear hf hp
  go_enter Tryz.func149, Tryz.ntmps149
  go_wp2_with fail
  have g0 : Gr w ((w.alloc (.cells #[.int .i64 x1, .int .i64 x2, .int .i64 x3, .int .i64 x4, .int .i64 x5, .bool x6] 51)).alloc (.cells #[.int .i64 y1, .int .i64 y2, .int .i64 y3, .int .i64 y4, .int .i64 y5, .bool y6] 51)).drew := (((Gr.refl _).alloc _).alloc _).drew
  refine wp_region_held_drew (S := fun wx => wx.cell? ⟨bx, 0, none⟩ = some (.func (.func fk) #[] #[]) ∧ wx.cell? ⟨w.heap.size, 0, none⟩ = some (.int .i64 x1) ∧ wx.cell? ⟨w.heap.size, 1, none⟩ = some (.int .i64 x2) ∧ wx.cell? ⟨w.heap.size, 2, none⟩ = some (.int .i64 x3) ∧ wx.cell? ⟨w.heap.size, 3, none⟩ = some (.int .i64 x4) ∧ wx.cell? ⟨w.heap.size, 4, none⟩ = some (.int .i64 x5) ∧ wx.cell? ⟨w.heap.size, 5, none⟩ = some (.bool x6) ∧ wx.cell? ⟨w.heap.size + 1, 0, none⟩ = some (.int .i64 y1) ∧ wx.cell? ⟨w.heap.size + 1, 1, none⟩ = some (.int .i64 y2) ∧ wx.cell? ⟨w.heap.size + 1, 2, none⟩ = some (.int .i64 y3) ∧ wx.cell? ⟨w.heap.size + 1, 3, none⟩ = some (.int .i64 y4) ∧ wx.cell? ⟨w.heap.size + 1, 4, none⟩ = some (.int .i64 y5) ∧ wx.cell? ⟨w.heap.size + 1, 5, none⟩ = some (.bool y6) ∧ Gr w wx) (by kernel_rfl) ⟨g0.cell hbx, by simp, by simp, by simp, by simp, by simp, by simp, by simp, by simp, by simp, by simp, by simp, by simp, g0⟩ (fun hS => ?_)
  refine tkH (i := 0) (v := (.func (.func fk) #[] #[])) rfl (fun w hS => by obtain ⟨s0, s1, s2, s3, s4, s5, s6, s7, s8, s9, s10, s11, s12, s13⟩ := hS; go_simp) hS ?_
  refine tkH (i := 1) (v := (.agg #[.int .i64 x1, .int .i64 x2, .int .i64 x3, .int .i64 x4, .int .i64 x5, .bool x6])) rfl (fun w hS => by obtain ⟨s0, s1, s2, s3, s4, s5, s6, s7, s8, s9, s10, s11, s12, s13⟩ := hS; go_simp) hS ?_
  refine tkH (i := 2) (v := (.agg #[.int .i64 y1, .int .i64 y2, .int .i64 y3, .int .i64 y4, .int .i64 y5, .bool y6])) rfl (fun w hS => by obtain ⟨s0, s1, s2, s3, s4, s5, s6, s7, s8, s9, s10, s11, s12, s13⟩ := hS; go_simp) hS ?_
  refine tkH (i := 4) (v := (.pointer (some ⟨w.heap.size, 4, none⟩))) rfl (fun w hS => by obtain ⟨s0, s1, s2, s3, s4, s5, s6, s7, s8, s9, s10, s11, s12, s13⟩ := hS; go_simp) hS ?_
  refine tkH (i := 5) (v := (.int .i64 x5)) rfl (fun w hS => by obtain ⟨s0, s1, s2, s3, s4, s5, s6, s7, s8, s9, s10, s11, s12, s13⟩ := hS; go_simp) hS ?_
  refine tkH (i := 6) (v := (.pointer (some ⟨w.heap.size + 1, 4, none⟩))) rfl (fun w hS => by obtain ⟨s0, s1, s2, s3, s4, s5, s6, s7, s8, s9, s10, s11, s12, s13⟩ := hS; go_simp) hS ?_
  refine tkH (i := 7) (v := (.int .i64 y5)) rfl (fun w hS => by obtain ⟨s0, s1, s2, s3, s4, s5, s6, s7, s8, s9, s10, s11, s12, s13⟩ := hS; go_simp) hS ?_
  refine wpAnyH_ready (rs := [3]) (by kernel_rfl) (by simp) ?_
  refine AllReadyH.cons rfl (fun K hK => ?_) AllReadyH.nil
  go_simp
  refine Calls.mono (HF.out _) ?_
  rintro e w3 ⟨rfl, g3⟩
  go_simp
  refine hK.out _ _ (by obtain ⟨s0, s1, s2, s3, s4, s5, s6, s7, s8, s9, s10, s11, s12, s13⟩ := hS; exact ⟨g3.cell s0, g3.cell s1, g3.cell s2, g3.cell s3, g3.cell s4, g3.cell s5, g3.cell s6, g3.cell s7, g3.cell s8, g3.cell s9, g3.cell s10, g3.cell s11, g3.cell s12, s13.trans g3⟩) (fun hS => ?_)
  clear hK
  refine wpAnyH_ready (rs := [8]) (by kernel_rfl) (by simp) ?_
  refine AllReadyH.cons rfl (fun K hK => ?_) AllReadyH.nil
  go_simp
  refine Calls.mono (HP.out _) ?_
  rintro e w4 ⟨rfl, rfl⟩
  go_simp
  refine hK.out _ _ hS (fun hS => ?_)
  clear hK
  refine wpAnyH_ready (rs := [9]) (by kernel_rfl) (by simp) ?_
  refine AllReadyH.cons rfl (fun K hK => ?_) AllReadyH.nil
  go_simp
  have g5 : Gr w4 (w4.alloc (.cells #[.int .i64 cv, .int .i64 pv] 3)) := (Gr.refl _).alloc _
  have k5 : (w4.alloc (.cells #[.int .i64 cv, .int .i64 pv] 3)).cell? ⟨w4.heap.size, 0, none⟩ = some (.int .i64 cv) := by simp
  have k6 : (w4.alloc (.cells #[.int .i64 cv, .int .i64 pv] 3)).cell? ⟨w4.heap.size, 1, none⟩ = some (.int .i64 pv) := by simp
  refine hK.out _ _ (by obtain ⟨s0, s1, s2, s3, s4, s5, s6, s7, s8, s9, s10, s11, s12, s13⟩ := hS; exact ⟨g5.cell s0, g5.cell s1, g5.cell s2, g5.cell s3, g5.cell s4, g5.cell s5, g5.cell s6, g5.cell s7, g5.cell s8, g5.cell s9, g5.cell s10, g5.cell s11, g5.cell s12, s13.trans g5⟩) (fun hS => ?_)
  clear hK
  refine wpAnyH_ready (rs := [10]) (by kernel_rfl) (by simp) ?_
  refine AllReadyH.cons rfl (fun K hK => ?_) AllReadyH.nil
  go_simp
  refine Calls.mono (or_calls cv pv w4.heap.size _ k5 k6) ?_
  rintro e w6 ⟨rfl, rfl⟩
  go_simp
  refine hK.out _ _ hS (fun hS => ?_)
  clear hK
  refine wpAnyH_ready (rs := [11]) (by kernel_rfl) (by simp) ?_
  refine AllReadyH.cons rfl (fun K hK => ?_) AllReadyH.nil
  go_simp
  refine hK.out _ _ hS (fun hS => ?_)
  clear hK
  refine wpAnyH_done (by kernel_rfl) ?_ _
  go_wp2
  go_ret
  exact ⟨rfl, by obtain ⟨s0, s1, s2, s3, s4, s5, s6, s7, s8, s9, s10, s11, s12, s13⟩ := hS; exact s13⟩
end Go.Proofs.YtpekfpfhonechaaGreat.Cal
