/- AuthnSeals for every input: what it answers. -/
import Derived.Test.YtbfipafhmbgnnaaAuX
import Derived.Test.YtbfipafhmbgnnaaBdR
import Derived.Test.YtbfipafhmbgnnaaSame
import Derived.Deep.DeepCutAuto
import Derived.Deep.CutBlock
namespace Go.Proofs.Ytbfipafhmbgnnaa
open Go.RowKit
set_option linter.unusedSimpArgs false
set_option linter.unusedVariables false

theorem sameB_selfS (b : Bd) : sameB b b = true := (sameB_iff b b).2 rfl

theorem note_one (k : Int × ByteArray) : note [] k = [k] := rfl
theorem num_one (k : Int × ByteArray) : num [k] k = 1 := by simp [num, seek]
theorem isIn_one (k q : Int × ByteArray) : isIn [k] q = decide (q = k) := by
  unfold isIn seek
  by_cases h : q = k
  · simp [h]
  · simp [h, seek]
theorem open_other (who other : Int) (s g : ByteArray) (h : ¬ other = who) : openR [(who, s)] ⟨other, s, g⟩ = .error 30 := by
  unfold openR chkB chk
  rw [isIn_one, if_neg]
  simp [h]
theorem open_body2 (who : Int) (s t g : ByteArray) (h : ¬ t = s) : openR [(who, s)] ⟨who, t, g⟩ = .error 30 := by
  unfold openR chkB chk
  rw [isIn_one, if_neg]
  simp [h]
theorem open_sig (who : Int) (s g : ByteArray) (h : ¬ g = sgnB 1) : openR [(who, s)] ⟨who, s, g⟩ = .error 30 := by
  unfold openR chkB chk
  rw [isIn_one, if_neg]
  simp [num_one, h]
theorem open_right (who : Int) (d : Bd) (he : byE d = 0) (hw : isSg who = true) : openR [(who, byS d)] ⟨who, byS d, sgnB 1⟩ = .ok d := by
  unfold openR chkB chk
  rw [isIn_one, if_pos]
  · have h := byE_ok he
    unfold byS
    rw [if_pos he]
    exact of_bytes d h.1 (by omega)
  · simp [num_one, hw]

set_option maxHeartbeats 2000000 in
set_option maxRecDepth 100000 in
theorem seals_calls (who : Int) (d : Bd) (lq : Option Addr) (ln lc : Nat) (other : Int) (body sig : ByteArray) (w : World) (h1 : d.digest.size ≤ maxLen) (h2 : d.text.size ≤ maxLen) (h3 : d.list.length < 9223372036854775807) (hl : Sgs w (.slice lq ln lc) d.list) (hbz : body.size ≤ 140737488351232) (hsz : sig.size ≤ 140737488351232) :
    Calls Try.prog 3 #[.int .i64 who, d.val (.slice lq ln lc), .int .i64 other, .string body, .string sig] w fun e w' => e = .returned (.bool true) ∧ Below w.heap.size w w' := by
  have HN : Hid _ := newBook_calls
  have HA : Hid _ := awake_calls
  have HL : Hid _ := hl
  obtain ⟨W0, hW0, XD, B0, Z0⟩ : ∃ W0, (w.alloc (.cells #[.int .i64 d.kind, .int .i64 d.view, .int .i64 d.seq, .int .i64 d.client, .int .i64 d.stamp, .string d.digest, .string d.text, .slice lq ln lc] 24)) = W0 ∧ Blk W0 w.heap.size (d.cells (.slice lq ln lc)) 24 ∧ Below w.heap.size w W0 ∧ W0.heap.size = w.heap.size + 1 :=
    ⟨_, rfl, blk_new _ _ _ _ rfl, by go_grown, by simp⟩
  have hGi := Bd.info d (.slice lq ln lc)
  unfold Bd.val
  go_enter Try.func3, Try.ntmps3
  go_wp2_with fail
  refine (HN.out _).mono ?_
  rintro e w1 ⟨p, b, x, y, rfl, K1, b1, hp, hb, hx', hy⟩
  have X1 := XD.below b1
  have z1 := b1.size
  have B1 : Below w.heap.size w w1 := B0.trans (b1.mono (by omega))
  have hSe := seal_calls who d lq ln lc w1 K1 (by decide) h1 h2 h3 (hl.below B1)
  have HSe : Hid _ := hSe
  clear hSe
  go_wp2_with ((with_reducible refine rd_row (ty := 24) X1 Try.underlying24 rfl hGi ?_ ?_); rfl)
  refine Calls.mono HSe.out ?_
  rintro e w2 ⟨rfl, K2, o2⟩
  have B2 : Below w.heap.size w w2 := o2.below (by omega) (by omega) B1 B1.size
  have z2 := B2.size
  have zo := o2.size
  have X2 := X1.off2 o2 (by have := K1.nums.mx; intro e; have h2 := X1; unfold Blk at h2; rw [e, this] at h2; cases h2) (by have := K1.nums.my; intro e; have h2 := X1; unfold Blk at h2; rw [e, this] at h2; cases h2)
  clear HSe
  have hR : (sealR [] who d).1.val = .agg #[.int .i64 (sealR [] who d).1.frm, .string (sealR [] who d).1.body, .string (sealR [] who d).1.sig] := rfl
  simp only [hR]
  obtain ⟨M, hM⟩ : ∃ M, (sealR [] who d).1 = M := ⟨_, rfl⟩
  obtain ⟨E, hE⟩ : ∃ E, (sealR [] who d).2 = E := ⟨_, rfl⟩
  rw [hM, hE]
  have HM : Hid _ := hM
  have HE : Hid _ := hE
  clear hM hE hR
  obtain ⟨W3, hW3, XM, B3, Z3⟩ : ∃ W3, (w2.alloc (.cells #[.int .i64 M.frm, .string M.body, .string M.sig] 28)) = W3 ∧ Blk W3 w2.heap.size #[.int .i64 M.frm, .string M.body, .string M.sig] 28 ∧ Below w2.heap.size w2 W3 ∧ W3.heap.size = w2.heap.size + 1 :=
    ⟨_, rfl, blk_new _ _ _ _ rfl, by go_grown, by simp⟩
  have X3 := X2.below B3
  have B3' : Below w.heap.size w W3 := B2.trans (B3.mono z2)
  have hby := bytes_ref d (.slice lq ln lc) W3 h1 h2 h3 (Sgs.below HL.out B3')
  rw [bytesR_eq] at hby
  have HBy : Hid _ := hby
  clear hby
  go_wp2_with ((with_reducible refine rd_row (ty := 24) X3 Try.underlying24 rfl hGi ?_ ?_); rfl)
  refine Calls.mono HBy.out ?_
  rintro e w4 ⟨rfl, b4⟩
  have XM4 := XM.below b4
  have X4 := X3.below b4
  have B4 : Below w.heap.size w w4 := B3'.trans (b4.mono B3'.size)
  have K4 := (K2.below B3).below b4
  have z4 := B4.size
  have zz4 := b4.size
  have m0 : w4.cell? ⟨w2.heap.size, 0, none⟩ = some (.int .i64 M.frm) := XM4.cell rfl
  have m1 : w4.cell? ⟨w2.heap.size, 1, none⟩ = some (.string M.body) := XM4.cell rfl
  have m2 : w4.cell? ⟨w2.heap.size, 2, none⟩ = some (.string M.sig) := XM4.cell rfl
  have hz := byS_size d
  clear HBy B1 B2 B3 b1 b4 X1 X2 X3 XM
  by_cases he : byE d = 0
  · rw [he]
    cases hw : isSg who
    · have hme : M = zeroSg ∧ E = 1 := by rw [← HM.out, ← HE.out]; unfold sealR; rw [if_pos he, hw]; exact ⟨rfl, rfl⟩
      obtain ⟨rfl, rfl⟩ := hme
      simp only [zeroSg] at m0 m1 m2
      by_cases h0 : who < 0
      · have hd0 : decide (who < 0) = true := decide_eq_true h0
        go_wp2_with fail
        refine (HA.out _).mono ?_
        rintro e w7 ⟨rfl, b7⟩
        go_wp2
        go_ret
        exact ⟨rfl, B4.trans (b7.mono z4)⟩
      · have hd0 : decide (who < 0) = false := decide_eq_false h0
        have hd1 : decide ((255 : Int) < who) = true := by
          unfold isSg at hw
          simp only [decide_eq_false_iff_not] at hw
          exact decide_eq_true (by omega)
        go_wp2_with fail
        refine (HA.out _).mono ?_
        rintro e w7 ⟨rfl, b7⟩
        go_wp2
        go_ret
        exact ⟨rfl, B4.trans (b7.mono z4)⟩
    · have hme : M = ⟨who, byS d, sgnB 1⟩ ∧ E = 0 := by rw [← HM.out, ← HE.out]; unfold sealR; rw [if_pos he, hw, note_one, num_one]; exact ⟨rfl, rfl⟩
      obtain ⟨rfl, rfl⟩ := hme
      simp only at m0 m1 m2
      have hS : sealS [] who d = [(who, byS d)] := by unfold sealS signS; rw [if_pos he, hw]; rfl
      rw [hS] at K4
      have hwb : 0 ≤ who ∧ who ≤ 255 := by unfold isSg at hw; simpa using hw
      have hd0 : decide (who < 0) = false := decide_eq_false (by omega)
      have hd1 : decide ((255 : Int) < who) = false := decide_eq_false (by omega)
      have hmz : (byS d).size ≤ maxLen := by unfold maxLen; omega
      have hO := open_calls ⟨who, byS d, sgnB 1⟩ w4 K4 (by simp) hmz
      rw [open_right who d he hw] at hO
      have hO1 := fun (ho : ¬ other = who) wx (hk : Book wx p b x y [] [(who, byS d)]) => open_calls ⟨other, byS d, sgnB 1⟩ wx hk (by simp) hmz
      have hO2 := fun (ho : ¬ body = byS d) wx (hk : Book wx p b x y [] [(who, byS d)]) => open_calls ⟨who, body, sgnB 1⟩ wx hk (by simp) (by unfold maxLen; show body.size ≤ _; omega)
      have hO3 := fun (ho : ¬ sig = sgnB 1) wx (hk : Book wx p b x y [] [(who, byS d)]) => open_calls ⟨who, byS d, sig⟩ wx hk (by simp) hmz
      have HO : Hid _ := hO
      have HO1 : Hid (∀ wx (ho : ¬ other = who) (hk : Book wx p b x y [] [(who, byS d)]), Calls Try.prog 9 #[.pointer (some ⟨p, 0, none⟩), Sg.val ⟨other, byS d, sgnB 1⟩] wx (ReadsO (.error 30) wx)) := fun wx ho hk => by have := hO1 ho wx hk; rwa [open_other who other _ _ ho] at this
      have HO2 : Hid (∀ wx (ho : ¬ body = byS d) (hk : Book wx p b x y [] [(who, byS d)]), Calls Try.prog 9 #[.pointer (some ⟨p, 0, none⟩), Sg.val ⟨who, body, sgnB 1⟩] wx (ReadsO (.error 30) wx)) := fun wx ho hk => by have := hO2 ho wx hk; rwa [open_body2 who _ _ _ ho] at this
      have HO3 : Hid (∀ wx (ho : ¬ sig = sgnB 1) (hk : Book wx p b x y [] [(who, byS d)]), Calls Try.prog 9 #[.pointer (some ⟨p, 0, none⟩), Sg.val ⟨who, byS d, sig⟩] wx (ReadsO (.error 30) wx)) := fun wx ho hk => by have := hO3 ho wx hk; rwa [open_sig who _ _ ho] at this
      have HQ : Hid (∀ m ∈ d.list, m.body.size ≤ maxLen ∧ m.sig.size ≤ maxLen) := fun m hm => by
        have h := (byE_ok he).1
        have h2 := (right_ok h).2.2.2.2.2.2.2.2
        have h3 := List.all_eq_true.1 h2 m hm
        unfold sgOk at h3
        simp only [Bool.and_eq_true, decide_eq_true_eq] at h3
        unfold maxLen; omega
      clear hO hO1 hO2 hO3 hS hw hz HM HE
      generalize byS d = s at *
      generalize sgnB 1 = g1 at *
      go_wp2_with fail
      refine Calls.mono HO.out ?_
      rintro e w5 ⟨va, rfl, ownA, b5⟩
      obtain ⟨pa, ca, rfl⟩ := sgs_of_own' ownA
      have z5 := b5.size
      obtain ⟨W6, hW6, Y6, B6, Z6⟩ : ∃ W6, (w5.alloc (.cells #[.int .i64 d.kind, .int .i64 d.view, .int .i64 d.seq, .int .i64 d.client, .int .i64 d.stamp, .string d.digest, .string d.text, .slice pa d.list.length ca] 24)) = W6 ∧ Blk W6 w5.heap.size (d.cells (.slice pa d.list.length ca)) 24 ∧ Below w5.heap.size w5 W6 ∧ W6.heap.size = w5.heap.size + 1 :=
        ⟨_, rfl, blk_new _ _ _ _ rfl, by go_grown, by simp⟩
      have X6 := (X4.below b5).below B6
      have XM6 := (XM4.below b5).below B6
      have K6 := (K4.below b5).below B6
      have BB : Below w.heap.size w W6 := (B4.trans (b5.mono z4)).trans (B6.mono (by omega))
      have hsm := same_ref d d (.slice lq ln lc) (.slice pa d.list.length ca) W6 (Sgs.below HL.out BB) (sgs_of_own (own_below ownA B6) (HQ.out)) h3 h3
      rw [sameB_selfS] at hsm
      have HSM : Hid _ := hsm
      clear hsm ownA B6 b5 HO X4 XM4 K4
      have x0 : W6.cell? ⟨w.heap.size, 0, none⟩ = some (.int .i64 d.kind) := X6.cell rfl
      have y0 : W6.cell? ⟨w5.heap.size, 0, none⟩ = some (.int .i64 d.kind) := Y6.cell rfl
      have x1 : W6.cell? ⟨w.heap.size, 1, none⟩ = some (.int .i64 d.view) := X6.cell rfl
      have y1 : W6.cell? ⟨w5.heap.size, 1, none⟩ = some (.int .i64 d.view) := Y6.cell rfl
      have x2 : W6.cell? ⟨w.heap.size, 2, none⟩ = some (.int .i64 d.seq) := X6.cell rfl
      have y2 : W6.cell? ⟨w5.heap.size, 2, none⟩ = some (.int .i64 d.seq) := Y6.cell rfl
      have x3 : W6.cell? ⟨w.heap.size, 3, none⟩ = some (.int .i64 d.client) := X6.cell rfl
      have y3 : W6.cell? ⟨w5.heap.size, 3, none⟩ = some (.int .i64 d.client) := Y6.cell rfl
      have x4 : W6.cell? ⟨w.heap.size, 4, none⟩ = some (.int .i64 d.stamp) := X6.cell rfl
      have y4 : W6.cell? ⟨w5.heap.size, 4, none⟩ = some (.int .i64 d.stamp) := Y6.cell rfl
      have x5 : W6.cell? ⟨w.heap.size, 5, none⟩ = some (.string d.digest) := X6.cell rfl
      have y5 : W6.cell? ⟨w5.heap.size, 5, none⟩ = some (.string d.digest) := Y6.cell rfl
      have x6 : W6.cell? ⟨w.heap.size, 6, none⟩ = some (.string d.text) := X6.cell rfl
      have y6 : W6.cell? ⟨w5.heap.size, 6, none⟩ = some (.string d.text) := Y6.cell rfl
      have x7 : W6.cell? ⟨w.heap.size, 7, none⟩ = some (.slice lq ln lc) := X6.cell rfl
      have y7 : W6.cell? ⟨w5.heap.size, 7, none⟩ = some (.slice pa d.list.length ca) := Y6.cell rfl
      unfold Bd.val
      go_wp2_with fail
      refine (Calls.mono HSM.out) ?_
      rintro e w7 ⟨rfl, b7⟩
      have XM7 := XM6.below b7
      have K7 := K6.below b7
      have B7 : Below w.heap.size w w7 := BB.trans (b7.mono BB.size)
      clear x0 x1 x2 x3 x4 x5 x6 x7 y0 y1 y2 y3 y4 y5 y6 y7 HSM X6 Y6 K6 XM6 BB b7
      have n2 : w7.cell? ⟨w2.heap.size, 2, none⟩ = some (.string g1) := XM7.cell rfl
      go_upto_if 98 with fail
      go_cut [] (fun wx => Below w7.heap.size w7 wx)
      case first =>
        by_cases ho : other = who
        · have e1 : (other != who) = false := by rw [ho]; simp
          have e2 : decide (other = who) = true := decide_eq_true ho
          have e3 : (other == who) = true := e2
          go_wp2_with fail
          go_meet
          exact Below.refl _ _
        · have e1 : (other != who) = true := by simpa using ho
          have e2 : decide (other = who) = false := decide_eq_false ho
          have e3 : (other == who) = false := e2
          go_wp2_with fail
          refine (HO1.out _ ho K7).mono ?_
          rintro e w8 ⟨rfl, b8⟩
          simp only [Bd.val, zeroBd]
          go_wp2_with fail
          go_meet
          exact b8.alloc b8.size _
      case rest =>
        rename World => w9
        have XM9 := XM7.below hcut
        have K9 := K7.below hcut
        have B9 : Below w.heap.size w w9 := B7.trans (hcut.mono B7.size)
        have n2 : w9.cell? ⟨w2.heap.size, 2, none⟩ = some (.string g1) := XM9.cell rfl
        obtain ⟨Bb113, hBb113⟩ : ∃ B, (body.toList == s.toList) = B := ⟨_, rfl⟩
        have HBb113 : Hid (Bb113 = decide (body = s)) := by show _ = _; rw [← hBb113, strEq]
        go_upto_if 113 with fail
        go_cut [] (fun wx => Below w9.heap.size w9 wx)
        case first =>
          cases Bb113
          · have ho : ¬ body = s := of_decide_eq_false HBb113.out.symm
            go_wp2_with fail
            refine (HO2.out _ ho K9).mono ?_
            rintro e w8 ⟨rfl, b8⟩
            simp only [Bd.val, zeroBd]
            go_wp2_with fail
            go_meet
            exact b8.alloc b8.size _
          · go_wp2_with fail
            go_meet
            exact Below.refl _ _
        case rest =>
          rename World => w10
          have XM10 := XM9.below hcut
          have K10 := K9.below hcut
          have B10 : Below w.heap.size w w10 := B9.trans (hcut.mono B9.size)
          have n2 : w10.cell? ⟨w2.heap.size, 2, none⟩ = some (.string g1) := XM10.cell rfl
          obtain ⟨Bb129, hBb129⟩ : ∃ B, (sig.toList == g1.toList) = B := ⟨_, rfl⟩
          have HBb129 : Hid (Bb129 = decide (sig = g1)) := by show _ = _; rw [← hBb129, strEq]
          go_upto_if 129 with fail
          go_cut [] (fun wx => Below w10.heap.size w10 wx)
          case first =>
            cases Bb129
            · have ho : ¬ sig = g1 := of_decide_eq_false HBb129.out.symm
              go_wp2_with fail
              refine (HO3.out _ ho K10).mono ?_
              rintro e w8 ⟨rfl, b8⟩
              simp only [Bd.val, zeroBd]
              go_wp2_with fail
              go_meet
              exact b8.alloc b8.size _
            · go_wp2_with fail
              go_meet
              exact Below.refl _ _
          case rest =>
            rename World => w11
            have B11 : Below w.heap.size w w11 := B10.trans (hcut.mono B10.size)
            go_wp2_with fail
            refine (HA.out _).mono ?_
            rintro e w12 ⟨rfl, b12⟩
            go_wp2
            go_ret
            exact ⟨rfl, B11.trans (b12.mono B11.size)⟩
  · have hme : M = zeroSg ∧ E = byE d := by rw [← HM.out, ← HE.out]; unfold sealR; rw [if_neg he]; exact ⟨rfl, rfl⟩
    obtain ⟨rfl, rfl⟩ := hme
    simp only [zeroSg] at m0 m1 m2
    generalize byE d = F at *
    have hne : (F != 0) = true := by simpa using he
    have heq : (F == F) = true := by simp
    go_wp2_with fail
    refine (HA.out _).mono ?_
    rintro e w7 ⟨rfl, b7⟩
    go_wp2
    go_ret
    exact ⟨rfl, B4.trans (b7.mono z4)⟩
end Go.Proofs.Ytbfipafhmbgnnaa
