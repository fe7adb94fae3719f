/- WireProofs for every proof and every text: what it answers. -/
import Derived.Test.YtdaonkgcdheplaaPfX
import Derived.Test.YtdaonkgcdheplaaPfQ
import Derived.Test.YtdaonkgcdheplaaPfS
import Derived.Test.YtdaonkgcdheplaaAwake
namespace Go.Proofs.Ytdaonkgcdheplaa
open Go.RowKit
set_option linter.unusedVariables false
set_option linter.unusedSimpArgs false

theorem proofR_form (x : Pf) : ∃ (z : ByteArray) (e : Int), proofR x = #[.string z, .int .i64 e] ∧ (e = 0 → z = ⟨(pfB x).toArray⟩ ∧ pfOk x = true) := by
  unfold proofR
  by_cases ha : pfOk x = true
  · rw [if_pos ha]; exact ⟨_, _, rfl, fun _ => ⟨rfl, ha⟩⟩
  · rw [if_neg ha]; exact ⟨_, _, rfl, fun h => by cases h⟩

/-- What a reading of a proof gives, without its cases. -/
theorem gotPf_form (s : ByteArray) : ∃ (q : Pf) (er : Int), okPf q ∧ ∀ (w : World) (e : Ending) (w' : World), GotPf (ofPfR s) w e w' → ∃ v, e = .returned (.tuple #[q.val v, .int .i64 er]) ∧ Pts w' v q.paths ∧ Below w.heap.size w w' := by
  cases h : ofPfR s with
  | error er => exact ⟨⟨0, []⟩, er, ⟨by simp, by simp, fun x hx => by cases hx⟩, fun w e w' ⟨h1, h2⟩ => ⟨.slice none 0 0, h1, Or.inl ⟨⟨_, _, rfl⟩, rfl⟩, h2⟩⟩
  | ok q =>
    have hl : okPf q := by
      unfold ofPfR at h
      split at h
      · cases h
      · split at h
        · cases h
        · rename_i l' nx hr
          have hle := rdPf_le hr
          split at h
          · cases h
          · split at h
            · cases h; exact hle.2.2
            · cases h
    refine ⟨q, 0, hl, fun w e w' ⟨v, ps, h1, h2, h3, h4⟩ => ⟨v, h1, ?_, h4⟩⟩
    rw [h2]
    exact pts_of_own h3 (fun x hx => hl.l x (by rw [h2]; exact hx))

set_option maxRecDepth 100000 in
set_option maxHeartbeats 4000000 in
theorem proofsLaw_calls (x : Pf) (v : Value) (s : ByteArray) (w : World) (h : Pts w v x.paths) (hs : s.size ≤ maxLen) :
    Calls Try.prog 4 #[x.val v, .string s] w fun e w' => e = .returned (.bool true) ∧ Below w.heap.size w w' := by
  have hnot : ∀ (x : Bool) (w : World), (Op.unary .not (.bool x)).run Try.prog w = .ok (.bool (!x)) w := fun _ _ => rfl
  obtain ⟨z, eb, hb, hz⟩ := proofR_form x
  have hba := fun wx (hbw : Below w.heap.size w wx) => putProof_calls x v wx (h.below hbw)
  have hbr := fun wx (hbw : Below w.heap.size w wx) => proof_ref x v wx (h.below hbw)
  have hof := fun wx => ofProof_calls s wx hs
  have hrf := fun wx => ofProof_ref s wx hs
  obtain ⟨q, er, hq, hx⟩ := gotPf_form s
  rw [hb] at hbr hba
  have HBA : Hid _ := hba
  have HBR : Hid _ := hbr
  have HO : Hid _ := hof
  have HR : Hid _ := hrf
  have HX : Hid _ := hx
  have HZ : Hid _ := hz
  have HH : Hid _ := h
  have HQ : Hid _ := hq
  clear hof hrf hbr hba hx hz hb hq
  have hzz : (z.toList != z.toList) = false := by simp
  have her : (er == er) = true := by simp
  have heb : (eb != eb) = false := by simp
  obtain ⟨p, c, rfl⟩ := h.len
  clear h
  have HSM : Hid (∀ va wx, Pts wx va x.paths → Below w.heap.size w wx → okPf x → Calls Try.prog 15 #[x.val va, x.val (.slice p x.paths.length c)] wx fun e w' => e = .returned (.bool true) ∧ Below wx.heap.size wx w') := fun va wx h1 h2 h3 => sameProof_same x va _ wx h1 (Pts.below HH.out h2) h3
  have P0 := blk_new w w.heap.size #[.int .i64 x.cnt, .slice p x.paths.length c] 33 rfl
  have B0 : Below w.heap.size w (w.alloc (.cells #[.int .i64 x.cnt, .slice p x.paths.length c] 33)) := by go_grown
  unfold Pf.val at HBA HBR HSM ⊢
  go_enter Try.func4, Try.ntmps4
  go_wp2_with fail
  refine (HBA.out _ B0).mono ?_
  rintro e w2 ⟨rfl, b2⟩
  have B2 := B0.trans (b2.mono B0.size)
  have P2 := P0.below b2
  have c0 := P2.cell (o := 0) rfl
  have c1 := P2.cell (o := 1) rfl
  clear P0 B0
  go_wp2_with fail
  refine (HBR.out _ B2).mono ?_
  rintro e w3 ⟨rfl, b3⟩
  have B4 := B2.trans (b3.mono B2.size)
  have P4 := P2.below b3
  clear c0 c1 P2
  by_cases he0 : eb = 0
  · obtain ⟨rfl, hok⟩ := HZ.out he0
    subst he0
    have hlen := pfB_len hok
    have hback := fun wx => ofProof_calls ⟨(pfB x).toArray⟩ wx (by rw [arr_size]; unfold maxLen; omega)
    rw [of_pf hok] at hback
    have HBK : Hid _ := hback
    have HOK : Hid _ := okPf_of hok
    clear hback hlen hok
    generalize (⟨(pfB x).toArray⟩ : ByteArray) = z at *
    go_wp2_with fail
    refine (HBK.out _).mono ?_
    rintro e w5 ⟨v5, ps5, rfl, hps5, own5, b5⟩
    have B5 := B4.trans (b5.mono B4.size)
    have P5 := P4.below b5
    have S5 : Pts w5 v5 x.paths := by
      rw [hps5]
      exact pts_of_own own5 (fun y hy => HOK.out.l y (by rw [hps5]; exact hy))
    obtain ⟨p5, c5, rfl⟩ := own_slice own5.row
    have hl5 : ps5.length = x.paths.length := by rw [hps5, List.length_map]
    rw [hl5] at S5 ⊢
    have P6 := P5.alloc (.cells #[.int .i64 x.cnt, .slice p5 x.paths.length c5] 33)
    have B6 := B5.alloc B5.size (.cells #[.int .i64 x.cnt, .slice p5 x.paths.length c5] 33)
    have hsm5 := HSM.out _ _ (S5.below ((Below.refl _ _).alloc (Nat.le_refl _) (.cells #[.int .i64 x.cnt, .slice p5 x.paths.length c5] 33))) B6 HOK.out
    have c0 := P5.cell (o := 0) rfl
    have c1 := P5.cell (o := 1) rfl
    have hlt5 := P5.lt
    have hnw : ¬ w.heap.size = w5.heap.size := by omega
    clear S5 own5 hps5 hl5
    unfold Pf.val
    go_wp2_with fail
    refine hsm5.mono ?_
    rintro e w6 ⟨rfl, b6⟩
    have B6' := B6.trans (b6.mono B6.size)
    clear c0 c1
    go_wp2_with fail
    refine (HO.out _).mono ?_
    intro e w7 g7
    obtain ⟨v7, rfl, S7, b7⟩ := HX.out _ _ _ g7
    clear g7
    have B7 := B6'.trans (b7.mono B6'.size)
    obtain ⟨p7, c7, rfl⟩ := S7.len
    have X7 := blk_new w7 w7.heap.size #[.int .i64 q.cnt, .slice p7 q.paths.length c7] 33 rfl
    have B7' := B7.alloc B7.size (.cells #[.int .i64 q.cnt, .slice p7 q.paths.length c7] 33)
    have S7' := S7.below ((Below.refl _ _).alloc (Nat.le_refl _) (.cells #[.int .i64 q.cnt, .slice p7 q.paths.length c7] 33))
    clear S7
    unfold Pf.val
    go_wp2_with fail
    refine (HR.out _).mono ?_
    intro e w8 g8
    obtain ⟨v8, rfl, S8, b8⟩ := HX.out _ _ _ g8
    clear g8
    have B8 := B7'.trans (b8.mono B7'.size)
    obtain ⟨p8, c8, rfl⟩ := S8.len
    have X8 := X7.below b8
    have S78 := (S7'.below b8).below ((Below.refl _ _).alloc (Nat.le_refl _) (.cells #[.int .i64 q.cnt, .slice p8 q.paths.length c8] 33))
    have S88 := S8.below ((Below.refl _ _).alloc (Nat.le_refl _) (.cells #[.int .i64 q.cnt, .slice p8 q.paths.length c8] 33))
    have B8' := B8.alloc B8.size (.cells #[.int .i64 q.cnt, .slice p8 q.paths.length c8] 33)
    have hsx := sameProof_same q _ _ _ S78 S88 HQ.out
    have z0 := X8.cell (o := 0) rfl
    have z1 := X8.cell (o := 1) rfl
    have hlt8 := X8.lt
    have hn8 : ¬ w7.heap.size = w8.heap.size := by omega
    have HSX : Hid _ := hsx
    clear S7' S78 S88 S8 hsx
    unfold Pf.val at HSX ⊢
    go_wp2_with fail
    refine (Calls.mono HSX.out) ?_
    rintro e w9 ⟨rfl, b9⟩
    have B9 := B8'.trans (b9.mono B8'.size)
    go_wp2_with fail
    refine (awake_calls _).mono ?_
    rintro e w10 ⟨rfl, b10⟩
    go_wp2
    go_ret
    exact ⟨rfl, B9.trans (b10.mono B9.size)⟩
  · have hne : (eb == 0) = false := by simpa using he0
    go_wp2_with fail
    refine (HO.out _).mono ?_
    intro e w7 g7
    obtain ⟨v7, rfl, S7, b7⟩ := HX.out _ _ _ g7
    clear g7
    have B7 := B4.trans (b7.mono B4.size)
    obtain ⟨p7, c7, rfl⟩ := S7.len
    have X7 := blk_new w7 w7.heap.size #[.int .i64 q.cnt, .slice p7 q.paths.length c7] 33 rfl
    have B7' := B7.alloc B7.size (.cells #[.int .i64 q.cnt, .slice p7 q.paths.length c7] 33)
    have S7' := S7.below ((Below.refl _ _).alloc (Nat.le_refl _) (.cells #[.int .i64 q.cnt, .slice p7 q.paths.length c7] 33))
    clear S7
    unfold Pf.val
    go_wp2_with fail
    refine (HR.out _).mono ?_
    intro e w8 g8
    obtain ⟨v8, rfl, S8, b8⟩ := HX.out _ _ _ g8
    clear g8
    have B8 := B7'.trans (b8.mono B7'.size)
    obtain ⟨p8, c8, rfl⟩ := S8.len
    have X8 := X7.below b8
    have S78 := (S7'.below b8).below ((Below.refl _ _).alloc (Nat.le_refl _) (.cells #[.int .i64 q.cnt, .slice p8 q.paths.length c8] 33))
    have S88 := S8.below ((Below.refl _ _).alloc (Nat.le_refl _) (.cells #[.int .i64 q.cnt, .slice p8 q.paths.length c8] 33))
    have B8' := B8.alloc B8.size (.cells #[.int .i64 q.cnt, .slice p8 q.paths.length c8] 33)
    have hsx := sameProof_same q _ _ _ S78 S88 HQ.out
    have z0 := X8.cell (o := 0) rfl
    have z1 := X8.cell (o := 1) rfl
    have hlt8 := X8.lt
    have hn8 : ¬ w7.heap.size = w8.heap.size := by omega
    have HSX : Hid _ := hsx
    clear S7' S78 S88 S8 hsx
    unfold Pf.val at HSX ⊢
    go_wp2_with fail
    refine (Calls.mono HSX.out) ?_
    rintro e w9 ⟨rfl, b9⟩
    have B9 := B8'.trans (b9.mono B8'.size)
    go_wp2_with fail
    refine (awake_calls _).mono ?_
    rintro e w10 ⟨rfl, b10⟩
    go_wp2
    go_ret
    exact ⟨rfl, B9.trans (b10.mono B9.size)⟩
end Go.Proofs.Ytdaonkgcdheplaa
