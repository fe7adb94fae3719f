/- WireApart for every two bodies: what it answers. -/
import Derived.Test.YtbdakbibnigdjabPure5
import Derived.Test.YtbdakbibnigdjabSame
namespace Go.Proofs.Ytbdakbibnigdjab
open Go.RowKit
set_option linter.unusedVariables false
set_option linter.unusedSimpArgs false

theorem bytesR_form (b : Bd) : ∃ (s : ByteArray) (e : Int), bytesR b = #[.string s, .int .i64 e] ∧ (e = 0 → right b = 0 ∧ s = ⟨(bdB b).toArray⟩) := by
  unfold bytesR
  by_cases h : right b = 0
  · rw [if_pos h]
    by_cases hl : 1048576 < (bdB b).length
    · rw [if_pos hl]; exact ⟨_, _, rfl, fun h => by cases h⟩
    · rw [if_neg hl]; exact ⟨_, _, rfl, fun _ => ⟨h, rfl⟩⟩
  · rw [if_neg h]; exact ⟨_, _, rfl, fun h' => absurd h' h⟩

theorem bytes_inj {a b : Bd} (ha : right a = 0) (hb : right b = 0) : ((⟨(bdB a).toArray⟩ : ByteArray).toList == (⟨(bdB b).toArray⟩ : ByteArray).toList) = sameB a b := by
  rw [Bool.eq_iff_iff, toList_inj, sameB_iff]
  constructor
  · intro h
    refine bdB_inj ha hb ?_
    have := congrArg (fun s : ByteArray => s.data.toList) h
    simpa using this
  · rintro rfl; rfl

set_option maxRecDepth 100000 in
set_option maxHeartbeats 4000000 in
theorem apart_calls (a b : Bd) (va vb : Value) (w : World) (ha1 : a.digest.size ≤ maxLen) (ha2 : a.text.size ≤ maxLen) (ha3 : a.list.length < 9223372036854775807) (hla : Sgs w va a.list)
    (hb1 : b.digest.size ≤ maxLen) (hb2 : b.text.size ≤ maxLen) (hb3 : b.list.length < 9223372036854775807) (hlb : Sgs w vb b.list) :
    Calls Try.prog 4 #[a.val va, b.val vb] w fun e w' => e = .returned (.bool true) ∧ Below w.heap.size w w' := by
  have hba := fun wx (h : Below w.heap.size w wx) => bytes_calls a va wx ha1 ha2 ha3 (hla.below h)
  have hbb := fun wx (h : Below w.heap.size w wx) => bytes_calls b vb wx hb1 hb2 hb3 (hlb.below h)
  have hsm := fun wx (h : Below w.heap.size w wx) => same_ref a b va vb wx (hla.below h) (hlb.below h) ha3 hb3
  obtain ⟨sa, ea, e1, k1⟩ := bytesR_form a
  obtain ⟨sb, eb, e2, k2⟩ := bytesR_form b
  rw [e1] at hba
  rw [e2] at hbb
  have HA : Hid _ := hba
  have HB : Hid _ := hbb
  have HS : Hid _ := hsm
  have hna := (bdAt_new w a va 24).below ((Below.refl _ _).alloc (Nat.le_refl _) (.cells #[.int .i64 b.kind, .int .i64 b.view, .int .i64 b.seq, .int .i64 b.client, .int .i64 b.stamp, .string b.digest, .string b.text, vb] 24))
  have hnb := bdAt_new (w.alloc (.cells #[.int .i64 a.kind, .int .i64 a.view, .int .i64 a.seq, .int .i64 a.client, .int .i64 a.stamp, .string a.digest, .string a.text, va] 24)) b vb 24
  have hsz : (w.alloc (.cells #[.int .i64 a.kind, .int .i64 a.view, .int .i64 a.seq, .int .i64 a.client, .int .i64 a.stamp, .string a.digest, .string a.text, va] 24)).heap.size = w.heap.size + 1 := by simp
  rw [hsz] at hnb
  obtain ⟨p, c, rfl⟩ := hla.len
  obtain ⟨p', c', rfl⟩ := hlb.len
  clear hba hbb hsm e1 e2 hla hlb hsz
  unfold Bd.val at HA HB HS
  unfold Bd.val
  go_enter Try.func4, Try.ntmps4
  go_wp2_with fail
  refine (HA.out _ (by go_grown)).mono ?_
  rintro e w1 ⟨rfl, b1⟩
  have B1 : Below w.heap.size w w1 := (show Below w.heap.size w _ by go_grown).trans (b1.mono (by simp; omega))
  have hna1 := hna.below b1
  have hnb1 := hnb.below b1
  obtain ⟨x0, x1, x2, x3, x4, x5, x6, x7, x8⟩ := id hna1
  obtain ⟨y0, y1, y2, y3, y4, y5, y6, y7, y8⟩ := id hnb1
  go_wp2_with fail
  refine (HB.out _ B1).mono ?_
  rintro e w2 ⟨rfl, b2⟩
  have B2 := B1.trans (b2.mono B1.size)
  have hna2 := hna1.below b2
  have hnb2 := hnb1.below b2
  clear x0 x1 x2 x3 x4 x5 x6 x7 x8 y0 y1 y2 y3 y4 y5 y6 y7 y8 hna hnb hna1 hnb1 b1
  obtain ⟨x0, x1, x2, x3, x4, x5, x6, x7, x8⟩ := hna2
  obtain ⟨y0, y1, y2, y3, y4, y5, y6, y7, y8⟩ := hnb2
  by_cases hea : ea = 0
  · by_cases heb : eb = 0
    · obtain ⟨ra, rfl⟩ := k1 hea
      obtain ⟨rb, rfl⟩ := k2 heb
      have hq := bytes_inj ra rb
      subst hea heb
      have hsm := HS.out _ B2
      generalize sameB a b = X at *
      clear ra rb k1 k2
      generalize (⟨(bdB a).toArray⟩ : ByteArray) = sa at *
      generalize (⟨(bdB b).toArray⟩ : ByteArray) = sb at *
      have hXX : (X == X) = true := by simp
      go_wp2_with fail
      refine hsm.mono ?_
      rintro e w3 ⟨rfl, b3⟩
      have B3 := B2.trans (b3.mono B2.size)
      go_wp2_with fail
      refine (awake_calls _).mono ?_
      rintro e w4 ⟨rfl, b4⟩
      go_wp2
      go_ret
      exact ⟨rfl, B3.trans (b4.mono B3.size)⟩
    · have hne : (eb != 0) = true := by simpa using heb
      subst hea
      clear k1 k2 heb
      go_wp2_with fail
      refine (awake_calls _).mono ?_
      rintro e w4 ⟨rfl, b4⟩
      go_wp2
      go_ret
      exact ⟨rfl, B2.trans (b4.mono B2.size)⟩
  · have hne : (ea != 0) = true := by simpa using hea
    clear k1 k2 hea
    go_wp2_with fail
    refine (awake_calls _).mono ?_
    rintro e w4 ⟨rfl, b4⟩
    go_wp2
    go_ret
    exact ⟨rfl, B2.trans (b4.mono B2.size)⟩
end Go.Proofs.Ytbdakbibnigdjab
