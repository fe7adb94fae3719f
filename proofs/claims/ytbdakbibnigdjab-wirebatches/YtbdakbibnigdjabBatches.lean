/- WireBatches for every messages and every text: what it answers. -/
import Derived.Test.YtbdakbibnigdjabBtB
import Derived.Test.YtbdakbibnigdjabBtC
import Derived.Test.YtbdakbibnigdjabSame
namespace Go.Proofs.Ytbdakbibnigdjab
open Go.RowKit
set_option linter.unusedVariables false
set_option linter.unusedSimpArgs false

theorem sameL_self (l : List Sg) : sameL l l = true := (sameL_iff l l).2 rfl

theorem batchR_form (l : List Sg) : ∃ (z : ByteArray) (e : Int), batchR l = #[.string z, .int .i64 e] ∧ (e = 0 → z = ⟨(batchB l).toArray⟩ ∧ l.length ≤ 4 ∧ l.all sgOk = true ∧ (batchB l).length ≤ 1048576) := by
  unfold batchR
  by_cases h : 4 < l.length
  · rw [if_pos h]; exact ⟨_, _, rfl, fun h => by cases h⟩
  · rw [if_neg h]
    by_cases ha : l.all sgOk = true
    · rw [if_pos ha]
      by_cases hl : 1048576 < (batchB l).length
      · rw [if_pos hl]; exact ⟨_, _, rfl, fun h => by cases h⟩
      · rw [if_neg hl]; exact ⟨_, _, rfl, fun _ => ⟨rfl, by omega, ha, by omega⟩⟩
    · rw [if_neg ha]; exact ⟨_, _, rfl, fun h => by cases h⟩

theorem ofBt_bytes (l : List Sg) (h4 : l.length ≤ 4) (ha : l.all sgOk = true) (hl : (batchB l).length ≤ 1048576) : ofBtR ⟨(batchB l).toArray⟩ = .ok l := by
  have hr := rdList_list ⟨(batchB l).toArray⟩ 0 4 (Nat.zero_le _)
  simp only [List.drop_zero, List.toList_toArray] at hr
  have ht := (codecSg.cnt 4 (by decide)).there l [] ⟨h4, fun m hm => okSg_of m (List.all_eq_true.1 ha m hm)⟩
  rw [List.append_nil] at ht
  have hbb : enc l.length ++ List.flatMap sgB l = batchB l := rfl
  rw [hbb] at ht
  rw [ht] at hr
  unfold ofBtR
  rw [arr_size, if_neg (by omega), hr]
  simp only [shiftR, Nat.zero_add]
  rw [if_neg (by omega), if_pos ha]

/-- What a reading of a batch gives, without its cases. -/
theorem gotBt_form {s : ByteArray} {w : World} : ∃ (l : List Sg) (er : Int), l.length ≤ 4 ∧ ∀ (w : World) (e : Ending) (w' : World), GotBt (ofBtR s) w e w' → ∃ v, e = .returned (.tuple #[v, .int .i64 er]) ∧ Sgs w' v l ∧ Below w.heap.size w w' := by
  cases h : ofBtR s with
  | error er => exact ⟨[], er, by simp, fun w e w' ⟨h1, h2⟩ => ⟨_, h1, Or.inl ⟨⟨_, _, rfl⟩, rfl⟩, h2⟩⟩
  | ok l =>
    have hl : l.length ≤ 4 ∧ ∀ m ∈ l, m.body.size ≤ 1048576 ∧ m.sig.size ≤ 1048576 := by
      unfold ofBtR at h
      split at h
      · cases h
      · split at h
        · cases h
        · rename_i l' nx hr
          have hle := rdList_le hr
          split at h
          · cases h
          · split at h
            · cases h; exact hle.2.2
            · cases h
    exact ⟨l, 0, hl.1, fun w e w' ⟨v, h1, h2, h3⟩ => ⟨v, h1, sgs_of_own h2 (fun m hm => ⟨Nat.le_trans (hl.2 m hm).1 (by unfold maxLen; decide), Nat.le_trans (hl.2 m hm).2 (by unfold maxLen; decide)⟩), h3⟩⟩

set_option maxRecDepth 100000 in
set_option maxHeartbeats 4000000 in
theorem batches_calls (v : Value) (l : List Sg) (s : ByteArray) (w : World) (h : Sgs w v l) (hl : l.length * 40 ≤ 140737488351232) (hs : s.size ≤ maxLen) :
    Calls Try.prog 6 #[v, .string s] w fun e w' => e = .returned (.bool true) ∧ Below w.heap.size w w' := by
  have hnot : ∀ (x : Bool) (w : World), (Op.unary .not (.bool x)).run Try.prog w = .ok (.bool (!x)) w := fun _ _ => rfl
  have hl' : l.length < 9223372036854775807 := by omega
  have hlm : ∀ m ∈ l, m.body.size ≤ maxLen ∧ m.sig.size ≤ maxLen := by
    intro m hm
    rcases h with ⟨_, rfl⟩ | ⟨b, off, cap, _, hc⟩
    · cases hm
    · obtain ⟨i, hi, rfl⟩ := List.getElem_of_mem hm
      exact (hc i hi).2.2.2
  have hcop := copied_calls v l w h hl
  have hof := fun wx => ofBatch_calls s wx hs
  have hrf := fun wx => ofBatch_ref s wx hs
  obtain ⟨x, er, hx4, hx⟩ := gotBt_form (s := s) (w := w)
  obtain ⟨z, eb, hb, hz⟩ := batchR_form l
  have hbr := fun wx (hbw : Below w.heap.size w wx) => batch_ref v l wx (h.below hbw) hl'
  rw [hb] at hbr
  have HBR : Hid _ := hbr
  have HO : Hid _ := hof
  have HR : Hid _ := hrf
  have HX : Hid _ := hx
  have HZ : Hid _ := hz
  have HH : Hid _ := h
  have HLM : Hid _ := hlm
  have HB : Hid _ := hb
  clear hof hrf hbr hx hz hb hlm
  have hzz : (z.toList != z.toList) = false := by simp
  have her : (er == er) = true := by simp
  have heb : (eb != eb) = false := by simp
  obtain ⟨p, c, rfl⟩ := h.len
  clear h
  go_enter Try.func6, Try.ntmps6
  go_wp2_with fail
  refine hcop.mono ?_
  rintro e w1 ⟨v1, rfl, own1, b1⟩
  have S1 := sgs_of_own own1 HLM.out
  have hba := batch_calls v1 l w1 S1 hl'
  rw [HB.out] at hba
  obtain ⟨p1, c1, rfl⟩ := own_len own1
  have HS1 : Hid _ := S1
  clear S1 own1
  go_wp2_with fail
  refine hba.mono ?_
  rintro e w2 ⟨rfl, b2⟩
  have B2 := b1.trans (b2.mono b1.size)
  go_wp2_with fail
  refine (HBR.out _ B2).mono ?_
  rintro e w3 ⟨rfl, b3⟩
  have B3 := B2.trans (b3.mono B2.size)
  have hsm := sameAll_ref (.slice p1 l.length c1) (.slice p l.length c) l l w3 (Sgs.below (Sgs.below HS1.out b2) b3) (Sgs.below HH.out B3) hl' hl'
  rw [sameL_self] at hsm
  go_wp2_with fail
  refine hsm.mono ?_
  rintro e w4 ⟨rfl, b4⟩
  have B4 := B3.trans (b4.mono B3.size)
  by_cases he0 : eb = 0
  · obtain ⟨rfl, h4, hall, hlen⟩ := HZ.out he0
    subst he0
    have hback := fun wx => ofBatch_calls ⟨(batchB l).toArray⟩ wx (by rw [arr_size]; unfold maxLen; omega)
    rw [ofBt_bytes l h4 hall hlen] at hback
    have HBK : Hid _ := hback
    clear hback hlen hall
    generalize (⟨(batchB l).toArray⟩ : ByteArray) = z at *
    go_wp2_with fail
    refine (HBK.out _).mono ?_
    rintro e w5 ⟨v5, rfl, own5, b5⟩
    have B5 := B4.trans (b5.mono B4.size)
    have S5 := sgs_of_own own5 HLM.out
    obtain ⟨p5, c5, rfl⟩ := own_len own5
    have hsm5 := sameAll_ref (.slice p5 l.length c5) (.slice p l.length c) l l w5 S5 (Sgs.below HH.out B5) hl' hl'
    rw [sameL_self] at hsm5
    clear S5 own5
    go_wp2_with fail
    refine hsm5.mono ?_
    rintro e w6 ⟨rfl, b6⟩
    have B6 := B5.trans (b6.mono B5.size)
    go_wp2_with fail
    refine (HO.out _).mono ?_
    intro e w7 g7
    obtain ⟨v7, rfl, S7, b7⟩ := HX.out _ _ _ g7
    clear g7
    have B7 := B6.trans (b7.mono B6.size)
    go_wp2_with fail
    refine (HR.out _).mono ?_
    intro e w8 g8
    obtain ⟨v8, rfl, S8, b8⟩ := HX.out _ _ _ g8
    clear g8
    have B8 := B7.trans (b8.mono B7.size)
    have hsx := sameAll_ref v7 v8 x x w8 (S7.below b8) S8 (by omega) (by omega)
    rw [sameL_self] at hsx
    obtain ⟨p7, c7, rfl⟩ := S7.len
    obtain ⟨p8, c8, rfl⟩ := S8.len
    clear S7 S8
    go_wp2_with fail
    refine hsx.mono ?_
    rintro e w9 ⟨rfl, b9⟩
    have B9 := B8.trans (b9.mono B8.size)
    go_wp2_with fail
    refine (awake_calls _).mono ?_
    rintro e w10 ⟨rfl, b10⟩
    go_wp2
    go_ret
    exact ⟨rfl, B9.trans (b10.mono B9.size)⟩
  · have hne : (eb == 0) = false := by simpa using he0
    go_wp2_with fail
    refine (HO.out _).mono ?_
    intro e w7 g7
    obtain ⟨v7, rfl, S7, b7⟩ := HX.out _ _ _ g7
    clear g7
    have B7 := B4.trans (b7.mono B4.size)
    go_wp2_with fail
    refine (HR.out _).mono ?_
    intro e w8 g8
    obtain ⟨v8, rfl, S8, b8⟩ := HX.out _ _ _ g8
    clear g8
    have B8 := B7.trans (b8.mono B7.size)
    have hsx := sameAll_ref v7 v8 x x w8 (S7.below b8) S8 (by omega) (by omega)
    rw [sameL_self] at hsx
    obtain ⟨p7, c7, rfl⟩ := S7.len
    obtain ⟨p8, c8, rfl⟩ := S8.len
    clear S7 S8
    go_wp2_with fail
    refine hsx.mono ?_
    rintro e w9 ⟨rfl, b9⟩
    have B9 := B8.trans (b9.mono B8.size)
    go_wp2_with fail
    refine (awake_calls _).mono ?_
    rintro e w10 ⟨rfl, b10⟩
    go_wp2
    go_ret
    exact ⟨rfl, B9.trans (b10.mono B9.size)⟩
end Go.Proofs.Ytbdakbibnigdjab
