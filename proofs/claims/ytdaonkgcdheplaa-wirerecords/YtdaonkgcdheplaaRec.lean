/- WireRecords for every records and every text: what it answers. -/
import Derived.Test.YtdaonkgcdheplaaRcX
import Derived.Test.YtdaonkgcdheplaaRcM
import Derived.Test.YtdaonkgcdheplaaRcS
import Derived.Test.YtdaonkgcdheplaaAwake
namespace Go.Proofs.Ytdaonkgcdheplaa
open Go.RowKit
set_option linter.unusedVariables false
set_option linter.unusedSimpArgs false

theorem recsR_form (l : List Rc) : ∃ (z : ByteArray) (e : Int), recsR l = #[.string z, .int .i64 e] ∧ (e = 0 → z = ⟨(rcsB l).toArray⟩ ∧ riseR l = 0 ∧ (rcsB l).length ≤ 1048576) := by
  unfold recsR
  by_cases ha : riseR l = 0
  · rw [if_pos ha]
    by_cases hl : 1048576 < (rcsB l).length
    · rw [if_pos hl]; exact ⟨_, _, rfl, fun h => by cases h⟩
    · rw [if_neg hl]; exact ⟨_, _, rfl, fun _ => ⟨rfl, ha, by omega⟩⟩
  · rw [if_neg ha]; exact ⟨_, _, rfl, fun h => absurd h ha⟩

theorem ofRc_bytes (l : List Rc) (ha : riseR l = 0) (hl : (rcsB l).length ≤ 1048576) : ofRcR ⟨(rcsB l).toArray⟩ = .ok l := by
  obtain ⟨h4, hall⟩ := riseR_ok ha
  have hr := rdRcs_list ⟨(rcsB l).toArray⟩ 0 4096 (Nat.zero_le _)
  simp only [List.drop_zero, List.toList_toArray] at hr
  have ht := (codecRc.cnt 4096 (by decide)).there l [] ⟨h4, fun m hm => by have := hall m hm; exact ⟨by omega, by omega⟩⟩
  rw [List.append_nil] at ht
  have hbb : enc l.length ++ List.flatMap rcB l = rcsB l := rfl
  rw [hbb] at ht
  rw [ht] at hr
  unfold ofRcR
  rw [arr_size, if_neg (by omega), hr]
  simp only [shiftR, Nat.zero_add]
  rw [if_neg (by omega), if_pos ha]

/-- What a reading of records gives, without its cases. -/
theorem gotRc_form {s : ByteArray} {w : World} : ∃ (l : List Rc) (er : Int), l.length ≤ 4096 ∧ ∀ (w : World) (e : Ending) (w' : World), GotRc (ofRcR s) w e w' → ∃ v, e = .returned (.tuple #[v, .int .i64 er]) ∧ Rcs w' v l ∧ Below w.heap.size w w' := by
  cases h : ofRcR s with
  | error er => exact ⟨[], er, by simp, fun w e w' ⟨h1, h2⟩ => ⟨_, h1, Or.inl ⟨⟨_, _, rfl⟩, rfl⟩, h2⟩⟩
  | ok l =>
    have hl : l.length ≤ 4096 ∧ ∀ m ∈ l, okRc m := by
      unfold ofRcR at h
      split at h
      · cases h
      · split at h
        · cases h
        · rename_i l' nx hr
          have hle := rdRcs_le hr
          split at h
          · cases h
          · split at h
            · cases h; exact hle.2.2
            · cases h
    exact ⟨l, 0, hl.1, fun w e w' ⟨v, h1, h2, h3⟩ => ⟨v, h1, rcs_of_own h2 (fun m hm => ⟨Nat.le_trans (hl.2 m hm).1 (by unfold maxLen; decide), Nat.le_trans (hl.2 m hm).2 (by unfold maxLen; decide)⟩), h3⟩⟩

set_option maxRecDepth 100000 in
set_option maxHeartbeats 4000000 in
theorem recordsLaw_calls (v : Value) (l : List Rc) (s : ByteArray) (w : World) (h : Rcs w v l) (hl' : l.length ≤ 9223372036854775807) (hs : s.size ≤ maxLen) :
    Calls Try.prog 3 #[v, .string s] w fun e w' => e = .returned (.bool true) ∧ Below w.heap.size w w' := by
  have hnot : ∀ (x : Bool) (w : World), (Op.unary .not (.bool x)).run Try.prog w = .ok (.bool (!x)) w := fun _ _ => rfl
  have hlm : ∀ m ∈ l, m.key.size ≤ maxLen ∧ m.dat.size ≤ maxLen := by
    intro m hm
    rcases h with ⟨_, rfl⟩ | ⟨b, off, cap, _, hc⟩
    · cases hm
    · obtain ⟨i, hi, rfl⟩ := List.getElem_of_mem hm
      exact (hc i hi).2.2
  have hba := putRecords_calls v l w h hl'
  have hof := fun wx => ofRecords_calls s wx hs
  have hrf := fun wx => ofRecords_ref s wx hs
  obtain ⟨x, er, hx4, hx⟩ := gotRc_form (s := s) (w := w)
  obtain ⟨z, eb, hb, hz⟩ := recsR_form l
  have hbr := fun wx (hbw : Below w.heap.size w wx) => records_ref v l wx (h.below hbw) hl'
  rw [hb] at hbr hba
  have HBR : Hid _ := hbr
  have HO : Hid _ := hof
  have HR : Hid _ := hrf
  have HX : Hid _ := hx
  have HZ : Hid _ := hz
  have HH : Hid _ := h
  have HLM : Hid _ := hlm
  clear hof hrf hbr hx hz hb hlm
  have hzz : (z.toList != z.toList) = false := by simp
  have her : (er == er) = true := by simp
  have heb : (eb != eb) = false := by simp
  obtain ⟨p, c, rfl⟩ := h.len
  clear h
  go_enter Try.func3, Try.ntmps3
  go_wp2_with fail
  refine hba.mono ?_
  rintro e w2 ⟨rfl, B2⟩
  go_wp2_with fail
  refine (HBR.out _ B2).mono ?_
  rintro e w3 ⟨rfl, b3⟩
  have B4 := B2.trans (b3.mono B2.size)
  by_cases he0 : eb = 0
  · obtain ⟨rfl, hall, hlen⟩ := HZ.out he0
    subst he0
    have hback := fun wx => ofRecords_calls ⟨(rcsB l).toArray⟩ wx (by rw [arr_size]; unfold maxLen; omega)
    rw [ofRc_bytes l hall hlen] at hback
    have HBK : Hid _ := hback
    have hl4 := (riseR_ok hall).1
    clear hback hlen hall
    generalize (⟨(rcsB l).toArray⟩ : ByteArray) = z at *
    go_wp2_with fail
    refine (HBK.out _).mono ?_
    rintro e w5 ⟨v5, rfl, own5, b5⟩
    have B5 := B4.trans (b5.mono B4.size)
    have S5 := rcs_of_own own5 HLM.out
    obtain ⟨p5, c5, rfl⟩ := own_slice own5
    have hsm5 := sameRecords_ref (.slice p5 l.length c5) (.slice p l.length c) l l w5 S5 (Rcs.below HH.out B5) (by omega) (by omega)
    rw [sameRc_self] at hsm5
    clear S5 own5
    go_wp2_with fail
    refine hsm5.mono ?_
    rintro e w6 ⟨rfl, b6⟩
    have B6 := B5.trans (b6.mono B5.size)
    go_wp2_with fail
    refine (HO.out _).mono ?_
    intro e w7 g7
    obtain ⟨v7, rfl, S7, b7⟩ := HX.out _ _ _ g7
    clear g7
    have B7 := B6.trans (b7.mono B6.size)
    go_wp2_with fail
    refine (HR.out _).mono ?_
    intro e w8 g8
    obtain ⟨v8, rfl, S8, b8⟩ := HX.out _ _ _ g8
    clear g8
    have B8 := B7.trans (b8.mono B7.size)
    have hsx := sameRecords_ref v7 v8 x x w8 (S7.below b8) S8 (by omega) (by omega)
    rw [sameRc_self] at hsx
    obtain ⟨p7, c7, rfl⟩ := S7.len
    obtain ⟨p8, c8, rfl⟩ := S8.len
    clear S7 S8
    go_wp2_with fail
    refine hsx.mono ?_
    rintro e w9 ⟨rfl, b9⟩
    have B9 := B8.trans (b9.mono B8.size)
    go_wp2_with fail
    refine (awake_calls _).mono ?_
    rintro e w10 ⟨rfl, b10⟩
    go_wp2
    go_ret
    exact ⟨rfl, B9.trans (b10.mono B9.size)⟩
  · have hne : (eb == 0) = false := by simpa using he0
    go_wp2_with fail
    refine (HO.out _).mono ?_
    intro e w7 g7
    obtain ⟨v7, rfl, S7, b7⟩ := HX.out _ _ _ g7
    clear g7
    have B7 := B4.trans (b7.mono B4.size)
    go_wp2_with fail
    refine (HR.out _).mono ?_
    intro e w8 g8
    obtain ⟨v8, rfl, S8, b8⟩ := HX.out _ _ _ g8
    clear g8
    have B8 := B7.trans (b8.mono B7.size)
    have hsx := sameRecords_ref v7 v8 x x w8 (S7.below b8) S8 (by omega) (by omega)
    rw [sameRc_self] at hsx
    obtain ⟨p7, c7, rfl⟩ := S7.len
    obtain ⟨p8, c8, rfl⟩ := S8.len
    clear S7 S8
    go_wp2_with fail
    refine hsx.mono ?_
    rintro e w9 ⟨rfl, b9⟩
    have B9 := B8.trans (b9.mono B8.size)
    go_wp2_with fail
    refine (awake_calls _).mono ?_
    rintro e w10 ⟨rfl, b10⟩
    go_wp2
    go_ret
    exact ⟨rfl, B9.trans (b10.mono B9.size)⟩
end Go.Proofs.Ytdaonkgcdheplaa
