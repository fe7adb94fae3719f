/- Bytes: an auction's numbers, laid one behind the other. -/
import Derived.Test.YtpekfpfhonechaaGreatHw12
import Derived.Test.YtpekfpfhonechaaGreatHw14
import Derived.Test.YtpekfpfhonechaaGreatHw31
import Derived.Deep.RegionHeldLaw
import Derived.Deep.RegionHeld3
namespace Go.Proofs.YtpekfpfhonechaaGreat.Clo
open Go.RowKit
set_option linter.unusedSimpArgs false
set_option linter.unusedVariables false
variable {p b : Nat} {a : Au}
open Go.Shelf
/-- What is laid of the demands; of an auction. -/
def demK (l : List Dm) : Nat → List Int
  | 0 => []
  | k + 1 => demK l k ++ [wasOf l k, nowOf l k]
theorem demK_len (l : List Dm) : ∀ k, (demK l k).length = 2 * k
  | 0 => rfl
  | k + 1 => by rw [demK, List.length_append, demK_len]; rfl
def headL (a : Au) : List Int := [a.supply, a.start, a.step, a.round, a.state, a.ds.length]
def numsK (a : Au) (k : Nat) : List Int := headL a ++ demK a.ds k
def nums (a : Au) : List Int := numsK a a.ds.length
def auB (a : Au) : ByteArray := ⟨(encs (nums a)).toArray⟩
theorem numsK_len (a : Au) (k : Nat) : (numsK a k).length = 6 + 2 * k := by unfold numsK; rw [List.length_append, demK_len]; rfl
theorem demK_fit {l : List Dm} (h : ∀ i, i < l.length → 0 ≤ wasOf l i ∧ wasOf l i ≤ 1048576 ∧ 0 ≤ nowOf l i ∧ nowOf l i ≤ 1048576) : ∀ k, k ≤ l.length → ∀ x ∈ demK l k, 0 ≤ x ∧ x ≤ 9007199254740992
  | 0, _, x, hx => by cases hx
  | k + 1, hk, x, hx => by
    rw [demK, List.mem_append] at hx
    have hd := h k (by omega)
    rcases hx with hx | hx
    · exact demK_fit h k (by omega) x hx
    · simp at hx
      rcases hx with rfl | rfl <;> omega
theorem Inv.fit {a : Au} (H : Inv a) : ∀ x ∈ nums a, 0 ≤ x ∧ x ≤ 9007199254740992 := by
  intro x hx
  unfold nums numsK headL at hx
  rw [List.mem_append] at hx
  rcases hx with hx | hx
  · have h1 := H.sup
    have h2 := H.st
    have h3 := H.sp
    have h4 := H.rd
    have h5 := H.rnd
    have h6 := H.len
    have h7 := H.sta
    simp at hx
    rcases hx with rfl | rfl | rfl | rfl | rfl | rfl <;> omega
  · exact demK_fit H.dm _ (Nat.le_refl _) x hx
theorem cell_two_new (w : World) (x y : Value) (t : TypeId) : ∀ j u, [x, y][j]? = some u → (w.alloc (.cells #[x, y] t)).cell? ((⟨w.heap.size, 0, none⟩ : Addr).add j) = some u := by
  intro j u hj
  have X := blk_new w w.heap.size #[x, y] t rfl
  rw [Addr.add_lit, Nat.zero_add]
  refine X.cell ?_
  match j, hj with
  | 0, hj => exact hj
  | 1, hj => exact hj
  | j + 2, hj => cases hj

set_option maxRecDepth 100000 in
set_option maxHeartbeats 2000000 in
theorem bytes_calls (w : World) (h : Lc w p b a) : Calls Tryz.prog 17 #[.pointer (some ⟨p, 0, none⟩)] w fun e w' => e = .returned (.string (auB a)) ∧ Below w.heap.size w w' := by
  obtain ⟨i0, hi, hz0, hz1, hz2⟩ := info_parts infoInt
  have hma := made_calls w h
  have hlen := h.inv.len
  have HFit : Hid _ := h.inv.fit
  have c0 : w.cell? ⟨p, 0, none⟩ = some (.int .i64 a.supply) := h.blk.cell rfl
  have c1 : w.cell? ⟨p, 1, none⟩ = some (.int .i64 a.start) := h.blk.cell rfl
  have c2 : w.cell? ⟨p, 2, none⟩ = some (.int .i64 a.step) := h.blk.cell rfl
  have c3 : w.cell? ⟨p, 3, none⟩ = some (.int .i64 a.round) := h.blk.cell rfl
  have c4 : w.cell? ⟨p, 4, none⟩ = some (.int .i64 a.state) := h.blk.cell rfl
  have c5 : w.cell? ⟨p, 5, none⟩ = some (.slice (some ⟨b, 0, none⟩) a.ds.length a.ds.length) := h.blk.cell rfl
  go_enter Tryz.func17, Tryz.ntmps17
  go_wp2_with fail
  refine hma.mono ?_
  rintro e w1 ⟨rfl, rfl⟩
  clear hma
  go_wp2_with fail
  refine wp_region_held_drew (S := (fun wx => wx.cell? ⟨p, 0, none⟩ = some (.int .i64 a.supply) ∧ wx.cell? ⟨p, 1, none⟩ = some (.int .i64 a.start) ∧ wx.cell? ⟨p, 2, none⟩ = some (.int .i64 a.step) ∧ wx.cell? ⟨p, 3, none⟩ = some (.int .i64 a.round) ∧ wx.cell? ⟨p, 4, none⟩ = some (.int .i64 a.state) ∧ wx.cell? ⟨p, 5, none⟩ = some (.slice (some ⟨b, 0, none⟩) a.ds.length a.ds.length))) (by kernel_rfl) ⟨c0, c1, c2, c3, c4, c5⟩ (fun hS => ?_)
  refine tkH (i := 0) (v := (.pointer (some ⟨p, 0, none⟩))) rfl (fun w hS => by obtain ⟨s0, s1, s2, s3, s4, s5⟩ := hS; go_simp) hS ?_
  refine tkH (i := 1) (v := (.pointer (some ⟨p, 0, none⟩))) rfl (fun w hS => by obtain ⟨s0, s1, s2, s3, s4, s5⟩ := hS; go_simp) hS ?_
  refine tkH (i := 2) (v := (.pointer (some ⟨p, 0, none⟩))) rfl (fun w hS => by obtain ⟨s0, s1, s2, s3, s4, s5⟩ := hS; go_simp) hS ?_
  refine tkH (i := 3) (v := (.int .i64 a.supply)) rfl (fun w hS => by obtain ⟨s0, s1, s2, s3, s4, s5⟩ := hS; go_simp) hS ?_
  refine tkH (i := 4) (v := (.pointer (some ⟨p, 0, none⟩))) rfl (fun w hS => by obtain ⟨s0, s1, s2, s3, s4, s5⟩ := hS; go_simp) hS ?_
  refine tkH (i := 5) (v := (.pointer (some ⟨p, 0, none⟩))) rfl (fun w hS => by obtain ⟨s0, s1, s2, s3, s4, s5⟩ := hS; go_simp) hS ?_
  refine tkH (i := 6) (v := (.pointer (some ⟨p, 1, none⟩))) rfl (fun w hS => by obtain ⟨s0, s1, s2, s3, s4, s5⟩ := hS; go_simp) hS ?_
  refine tkH (i := 7) (v := (.int .i64 a.start)) rfl (fun w hS => by obtain ⟨s0, s1, s2, s3, s4, s5⟩ := hS; go_simp) hS ?_
  refine tkH (i := 8) (v := (.pointer (some ⟨p, 0, none⟩))) rfl (fun w hS => by obtain ⟨s0, s1, s2, s3, s4, s5⟩ := hS; go_simp) hS ?_
  refine tkH (i := 9) (v := (.pointer (some ⟨p, 0, none⟩))) rfl (fun w hS => by obtain ⟨s0, s1, s2, s3, s4, s5⟩ := hS; go_simp) hS ?_
  refine tkH (i := 10) (v := (.pointer (some ⟨p, 2, none⟩))) rfl (fun w hS => by obtain ⟨s0, s1, s2, s3, s4, s5⟩ := hS; go_simp) hS ?_
  refine tkH (i := 11) (v := (.int .i64 a.step)) rfl (fun w hS => by obtain ⟨s0, s1, s2, s3, s4, s5⟩ := hS; go_simp) hS ?_
  refine tkH (i := 12) (v := (.pointer (some ⟨p, 0, none⟩))) rfl (fun w hS => by obtain ⟨s0, s1, s2, s3, s4, s5⟩ := hS; go_simp) hS ?_
  refine tkH (i := 13) (v := (.pointer (some ⟨p, 0, none⟩))) rfl (fun w hS => by obtain ⟨s0, s1, s2, s3, s4, s5⟩ := hS; go_simp) hS ?_
  refine tkH (i := 14) (v := (.pointer (some ⟨p, 3, none⟩))) rfl (fun w hS => by obtain ⟨s0, s1, s2, s3, s4, s5⟩ := hS; go_simp) hS ?_
  refine tkH (i := 15) (v := (.int .i64 a.round)) rfl (fun w hS => by obtain ⟨s0, s1, s2, s3, s4, s5⟩ := hS; go_simp) hS ?_
  refine tkH (i := 16) (v := (.pointer (some ⟨p, 0, none⟩))) rfl (fun w hS => by obtain ⟨s0, s1, s2, s3, s4, s5⟩ := hS; go_simp) hS ?_
  refine tkH (i := 17) (v := (.pointer (some ⟨p, 0, none⟩))) rfl (fun w hS => by obtain ⟨s0, s1, s2, s3, s4, s5⟩ := hS; go_simp) hS ?_
  refine tkH (i := 18) (v := (.pointer (some ⟨p, 4, none⟩))) rfl (fun w hS => by obtain ⟨s0, s1, s2, s3, s4, s5⟩ := hS; go_simp) hS ?_
  refine tkH (i := 19) (v := (.int .i64 a.state)) rfl (fun w hS => by obtain ⟨s0, s1, s2, s3, s4, s5⟩ := hS; go_simp) hS ?_
  refine tkH (i := 20) (v := (.pointer (some ⟨p, 0, none⟩))) rfl (fun w hS => by obtain ⟨s0, s1, s2, s3, s4, s5⟩ := hS; go_simp) hS ?_
  refine tkH (i := 21) (v := (.pointer (some ⟨p, 0, none⟩))) rfl (fun w hS => by obtain ⟨s0, s1, s2, s3, s4, s5⟩ := hS; go_simp) hS ?_
  refine tkH (i := 22) (v := (.pointer (some ⟨p, 5, none⟩))) rfl (fun w hS => by obtain ⟨s0, s1, s2, s3, s4, s5⟩ := hS; go_simp) hS ?_
  refine tkH (i := 23) (v := (.slice (some ⟨b, 0, none⟩) a.ds.length a.ds.length)) rfl (fun w hS => by obtain ⟨s0, s1, s2, s3, s4, s5⟩ := hS; go_simp) hS ?_
  refine tkH (i := 24) (v := (.int .i64 (a.ds.length : Int))) rfl (fun w hS => by obtain ⟨s0, s1, s2, s3, s4, s5⟩ := hS; go_simp) hS ?_
  refine wpAnyH_ready (rs := [25]) (by kernel_rfl) (by simp) ?_
  refine AllReadyH.cons rfl (fun K hK => ?_) AllReadyH.nil
  go_simp
  refine hK.out _ _ ⟨(h.drew.alloc _).blk.cell rfl, (h.drew.alloc _).blk.cell rfl, (h.drew.alloc _).blk.cell rfl, (h.drew.alloc _).blk.cell rfl, (h.drew.alloc _).blk.cell rfl, (h.drew.alloc _).blk.cell rfl⟩ (fun hS => ?_)
  clear hK
  refine tkH (i := 26) (v := (.slice (some ⟨w1.heap.size, 0, none⟩) 6 6)) rfl (fun w hS => by obtain ⟨s0, s1, s2, s3, s4, s5⟩ := hS; go_simp) hS ?_
  refine wpAnyH_done (by kernel_rfl) ?_ _
  obtain ⟨W2, hW2, X2, B2, L2⟩ : ∃ W2, (w1.alloc (.cells #[.int .i64 a.supply, .int .i64 a.start, .int .i64 a.step, .int .i64 a.round, .int .i64 a.state, .int .i64 (a.ds.length : Int)] 3)).drew = W2 ∧ Blk W2 w1.heap.size (iC (numsK a 0)) 3 ∧ Below w1.heap.size w1 W2 ∧ Lc W2 p b a := ⟨_, rfl, (blk_new w1 w1.heap.size _ _ rfl).drew, ((Below.refl _ _).alloc (Nat.le_refl _) _).drew, (h.alloc _).drew⟩
  have ho2 : W2.ownsRow w1.heap.size 3 1 (.slice (some ⟨w1.heap.size, 0, none⟩) 6 6) (6 + 2 * 0) (iL (numsK a 0)) := ⟨rfl, Or.inr ⟨w1.heap.size, 6, iC (numsK a 0), rfl, Nat.le_refl _, X2, by omega, by unfold maxLen; omega, rfl, rfl⟩⟩
  have g5 : W2.cell? ⟨p, 5, none⟩ = some (.slice (some ⟨b, 0, none⟩) a.ds.length a.ds.length) := L2.blk.cell rfl
  clear hS c0 c1 c2 c3 c4 c5 X2
  try rw [hW2]
  go_wp2
  go_loopw [3, 45] (fun o i wr => ∃ k : Nat, k ≤ a.ds.length ∧ i = .int .i64 k ∧ wr.ownsRow w1.heap.size 3 1 o (6 + 2 * k) (iL (numsK a k)) ∧ Below w1.heap.size w1 wr) (fun _ i _ => a.ds.length - (intOf i).toNat)
  case atStart => exact ⟨0, Nat.zero_le _, rfl, ho2, B2⟩
  case round =>
    clear ho2 B2 L2
    obtain ⟨k, hk, rfl, ho, br⟩ := hrel
    have zr := br.size
    by_cases hlt : k < a.ds.length
    · have hd : decide ((k : Int) < a.ds.length) = true := by simp only [decide_eq_true_eq]; omega
      have Lr := h.below br
      have n0 := Lr.was hlt
      have n1 := Lr.now hlt
      have HT : Hid (iL (numsK a (k + 1)) = iL (numsK a k) ++ [.int .i64 (wasOf a.ds k), .int .i64 (nowOf a.ds k)]) := by
        show _ = _
        unfold numsK
        rw [demK]
        simp [iL]
      generalize nowOf a.ds k = x at *
      generalize wasOf a.ds k = y at *
      obtain ⟨W3, hW3, X3, B3, o3⟩ : ∃ W3, (wr.alloc (.cells #[.int .i64 y, .int .i64 x] 83)) = W3 ∧ Blk W3 wr.heap.size #[.int .i64 y, .int .i64 x] 83 ∧ Below w1.heap.size w1 W3 ∧ W3.ownsRow w1.heap.size 3 1 u3 (6 + 2 * k) (iL (numsK a k)) := ⟨_, rfl, blk_new _ _ _ _ rfl, br.alloc (by omega) _, ho.alloc _⟩
      have e0 : W3.cell? ⟨wr.heap.size, 0, none⟩ = some (.int .i64 y) := X3.cell rfl
      have e1 : W3.cell? ⟨wr.heap.size, 1, none⟩ = some (.int .i64 x) := X3.cell rfl
      have z3 := B3.size
      have HO : Hid _ := o3
      clear o3 ho Lr X3
      go_wp2_with (at_builtin; refine wpList_append_own _ rfl (.tmp 49) (.tmp 54) 81 rfl w1.heap.size 3 i0 (.int .i64 0) 1 8 Tryz.underlying81 hi hz0 hz1 hz2 rfl (by decide) _ _ _ rfl (World.ownsRow.alloc HO.out _) ⟨W3.heap.size, 0, none⟩ 2 2 [.int .i64 y, .int .i64 x] rfl rfl ?c1 ?c2 ?c3 ?c4 ?c5 ?_)
      case c1 => exact cell_two_new _ _ _ _
      case c2 => intro u hu; simp at hu; rcases hu with rfl | rfl <;> rfl
      case c3 => unfold maxLen; omega
      case c4 => omega
      case c5 => simp; omega
      intro v' w4 ho' hg' _
      go_wp2
      refine ⟨⟨k + 1, by omega, by norm_cast, ?_, ?_⟩, by simp [intOf]; omega⟩
      · rw [HT.out]; exact ho'
      · exact below_grownC (B3.alloc (by omega) _) hg' (fun q hq => (World.ownsRow.lt HO.out q hq).1) (by simp; omega)
    · have hd : decide ((k : Int) < a.ds.length) = false := by simp only [decide_eq_false_iff_not]; omega
      have hkk : k = a.ds.length := by omega
      subst hkk
      have HL : Hid ((nums a).length = 6 + 2 * a.ds.length) := numsK_len a _
      have hrd : Rd wr u3 (nums a) := (rwn_own (l := nums a) (B := w1.heap.size) (by rw [HL.out]; exact ho)).rd
      obtain ⟨c, cap, hu3, hc⟩ := hrd
      subst hu3
      have HC : Hid _ := hc
      rw [HL.out] at HC
      have hfit : ∀ i, i < (nums a).length → 0 ≤ gAt (nums a) i ∧ gAt (nums a) i ≤ 9007199254740992 := fun i hi => by rw [gAt_eq hi]; exact HFit.out _ (List.getElem_mem _)
      have HF : Hid _ := hfit
      rw [HL.out] at HF
      have HTK : Hid (∀ k, k < (nums a).length → encs ((nums a).take (k + 1)) = encs ((nums a).take k) ++ enc (gAt (nums a) k).toNat) := fun k hk => by rw [gAt_eq hk]; exact encs_take _ k hk
      rw [HL.out] at HTK
      have HEL : Hid (∀ k, (encs ((nums a).take k)).length ≤ 10 * k) := fun k => by
        have := encs_len ((nums a).take k)
        rw [List.length_take] at this
        omega
      have HEN : Hid (encs ((nums a).take (6 + 2 * a.ds.length)) = encs (nums a)) := by
        show _ = _
        rw [← HL.out, List.take_length]
      rw [HL.out]
      clear hc ho HFit hfit hlt hd
      have HAB : Hid (auB a = ⟨(encs (nums a)).toArray⟩) := rfl
      obtain ⟨wq, rfl⟩ : ∃ wq, wq = wr := ⟨wr, rfl⟩
      obtain ⟨W5, hW5, Bd5, B5, Z5⟩ : ∃ W5, wq.alloc (.cells #[.pointer none, .slice none 0 0] 87) = W5 ∧ Bdr wq.heap.size wq.heap.size [] W5 ∧ Below wq.heap.size wq W5 ∧ W5.heap.size = wq.heap.size + 1 := ⟨_, rfl, Lib.fresh_isBuilder 87 5 wq, by go_grown, by simp⟩
      generalize hN : nums a = m at *
      have HN : Hid _ := hN
      have HZ5 : Hid _ := Z5
      have hl6 : 6 + 2 * a.ds.length ≤ 38 := by omega
      generalize 6 + 2 * a.ds.length = L at *
      clear hN Z5
      go_wp2
      go_loopw [59] (fun i wr => ∃ k : Nat, k ≤ L ∧ i = .int .i64 k ∧ Bdr wq.heap.size wq.heap.size (encs (m.take k)) wr ∧ Below wq.heap.size wq wr) (fun i _ => L - (intOf i).toNat)
      case atStart => exact ⟨0, Nat.zero_le _, rfl, Bd5, B5⟩
      case round =>
        obtain ⟨k, hk, rfl, hb, hbl⟩ := hrel
        by_cases hlt : k < L
        · have hd : decide ((k : Int) < L) = true := by simp only [decide_eq_true_eq]; omega
          obtain ⟨g, off, rfl, hg, hx0⟩ := HC.out k hlt
          have hx := (hbl.cell (p := ⟨g, off + k, none⟩) hg).trans hx0
          clear hx0
          have ht' := HTK.out k hlt
          obtain ⟨hm0, hm1⟩ := HF.out k hlt
          have hel := HEL.out k
          generalize gAt m k = z at *
          obtain ⟨n, rfl⟩ := Int.eq_ofNat_of_zero_le hm0
          rw [Int.toNat_natCast] at ht'
          have HT : Hid _ := ht'
          clear ht'
          have HP : Hid _ := putInt_ok n wr (by omega)
          have hen := enc_le n
          have hls : (encs (m.take k)).length + (enc n).length ≤ 140737488355328 := by omega
          generalize encs (m.take k) = acc at *
          go_wp2_with fail
          refine Calls.mono HP.out ?_
          rintro e w6 ⟨rfl, b6⟩
          have hB6 := hb.below b6
          have z0 := hbl.size
          have z6 := b6.size
          have HW : Hid _ := writeString_calls wq.heap.size wq.heap.size acc ⟨(enc n).toArray⟩ w6 hB6 (by simpa [ByteArray.size] using hls) (by omega)
          go_wp2_with fail
          refine Calls.mono HW.out ?_
          rintro e w7 ⟨rfl, hB7, b7, k7⟩
          go_wp2
          refine ⟨⟨k + 1, by omega, by norm_cast, ?_, (hbl.trans (b6.mono (by omega))).trans b7⟩, ?_⟩
          · rw [HT.out]; exact hB7
          · simp [intOf]; omega
        · have hd : decide ((k : Int) < L) = false := by simp only [decide_eq_false_iff_not]; omega
          have hkk : k = L := by omega
          subst hkk
          rw [HEN.out] at hb
          have HS : Hid _ := bString_calls wq.heap.size wq.heap.size (encs m) wr hb hbl.size
          go_wp2_with fail
          refine Calls.mono HS.out ?_
          rintro e w8 ⟨rfl, b8⟩
          go_wp2
          go_ret
          exact ⟨by rw [HAB.out]; rfl, br.trans ((hbl.trans b8).mono zr)⟩
end Go.Proofs.YtpekfpfhonechaaGreat.Clo
