/- AuthnNobody for every input: what it answers. -/
import Derived.Test.YtpncomnfodiliaaAuX
namespace Go.Proofs.Ytpncomnfodiliaa
open Go.RowKit
set_option linter.unusedSimpArgs false
set_option linter.unusedVariables false

/-- A book that nobody made: nil, or one without a scheme. -/
def Unmade (w : World) (v : Value) : Prop := v = .pointer none ∨ ∃ z, v = .pointer (some ⟨z, 0, none⟩) ∧ Blk w z #[.nilIface] 49
theorem Unmade.below {w w' : World} {v : Value} (h : Unmade w v) (hb : Below w.heap.size w w') : Unmade w' v := by
  rcases h with h | ⟨z, h, hB⟩
  · exact Or.inl h
  · exact Or.inr ⟨z, h, hB.below hb⟩
theorem unmade_calls (v : Value) (w : World) (h : Unmade w v) : Calls Try.prog 28 #[v] w fun e w' => e = .returned (.bool false) ∧ w' = w := by
  rcases h with rfl | ⟨z, rfl, hB⟩
  · go_enter Try.func28, Try.ntmps28
    go_wp2
    go_ret
    exact ⟨rfl, rfl⟩
  · have c0 : w.cell? ⟨z, 0, none⟩ = some .nilIface := hB.cell rfl
    go_enter Try.func28, Try.ntmps28
    go_wp2
    go_ret
    exact ⟨rfl, rfl⟩
theorem unDigest_calls (v : Value) (s : ByteArray) (w : World) (h : Unmade w v) : Calls Try.prog 12 #[v, .string s] w fun e w' => e = .returned (.string ⟨#[]⟩) ∧ w' = w := by
  have hm := unmade_calls v w h
  go_enter Try.func12, Try.ntmps12
  go_wp2_with fail
  refine hm.mono ?_
  rintro e w1 ⟨rfl, rfl⟩
  go_wp2
  go_ret
  exact ⟨rfl, rfl⟩
theorem unSign_calls (v : Value) (who : Int) (s : ByteArray) (w : World) (h : Unmade w v) : Calls Try.prog 13 #[v, .int .i64 who, .string s] w fun e w' => e = .returned (.tuple #[.string ⟨#[]⟩, .int .i64 1]) ∧ w' = w := by
  have hm := unmade_calls v w h
  go_enter Try.func13, Try.ntmps13
  go_wp2_with fail
  refine hm.mono ?_
  rintro e w1 ⟨rfl, rfl⟩
  go_wp2
  go_ret2
  exact ⟨rfl, rfl⟩
theorem unCheck_calls (v : Value) (who : Int) (s sig : ByteArray) (w : World) (h : Unmade w v) : Calls Try.prog 14 #[v, .int .i64 who, .string s, .string sig] w fun e w' => e = .returned (.bool false) ∧ w' = w := by
  have hm := unmade_calls v w h
  go_enter Try.func14, Try.ntmps14
  go_wp2_with fail
  refine hm.mono ?_
  rintro e w1 ⟨rfl, rfl⟩
  go_wp2
  go_ret
  exact ⟨rfl, rfl⟩
theorem unIssued_calls (v : Value) (who : Int) (s : ByteArray) (w : World) (h : Unmade w v) : Calls Try.prog 15 #[v, .int .i64 who, .string s] w fun e w' => e = .returned (.bool false) ∧ w' = w := by
  have hm := unmade_calls v w h
  go_enter Try.func15, Try.ntmps15
  go_wp2_with fail
  refine hm.mono ?_
  rintro e w1 ⟨rfl, rfl⟩
  go_wp2
  go_ret
  exact ⟨rfl, rfl⟩
set_option maxRecDepth 100000 in
theorem unSeal_calls (v : Value) (who : Int) (d : Bd) (q : Option Addr) (n c : Nat) (w : World) (h : Unmade w v) : Calls Try.prog 16 #[v, .int .i64 who, d.val (.slice q n c)] w fun e w' => e = .returned (.tuple #[zeroSg.val, .int .i64 1]) ∧ Below w.heap.size w w' := by
  obtain ⟨W1, hW1, XR, B1, Z1⟩ : ∃ W1, ((w.alloc (.cells #[.int .i64 d.kind, .int .i64 d.view, .int .i64 d.seq, .int .i64 d.client, .int .i64 d.stamp, .string d.digest, .string d.text, .slice q n c] 45)).alloc (.cells #[.int .i64 0, .string ⟨#[]⟩, .string ⟨#[]⟩] 51)) = W1 ∧ Blk W1 (w.heap.size + 1) zeroSg.cells 51 ∧ Below w.heap.size w W1 ∧ W1.heap.size = w.heap.size + 2 :=
    ⟨_, rfl, blk_new _ _ _ _ (by simp), by go_grown, by simp⟩
  have hm := unmade_calls v W1 (h.below B1)
  unfold Bd.val
  go_enter Try.func16, Try.ntmps16
  go_wp2_with fail
  refine hm.mono ?_
  rintro e w1 ⟨rfl, rfl⟩
  obtain ⟨W9, hW9, X9, _⟩ := setRow_named XR zeroSg.cells
  go_wp2_with ((with_reducible refine st_row (ty := 51) XR (Sg.info _) (Sg.same _ _) (Sg.one _) hW9 ?_ ?_ ?_); rfl; rfl)
  refine bodyPost_ret (v := .tuple #[zeroSg.val, .int .i64 1]) (seal_results X9 rfl rfl) rfl ?_
  exact ⟨rfl, below_row B1 hW9 (by omega)⟩
set_option maxRecDepth 100000 in
theorem unOpen_calls (v : Value) (m : Sg) (w : World) (h : Unmade w v) : Calls Try.prog 17 #[v, m.val] w fun e w' => e = .returned (.tuple #[zeroBd.val (.slice none 0 0), .int .i64 1]) ∧ Below w.heap.size w w' := by
  obtain ⟨W1, hW1, XR, B1, Z1⟩ : ∃ W1, ((w.alloc (.cells #[.int .i64 m.frm, .string m.body, .string m.sig] 51)).alloc (.cells #[.int .i64 0, .int .i64 0, .int .i64 0, .int .i64 0, .int .i64 0, .string ⟨#[]⟩, .string ⟨#[]⟩, .slice none 0 0] 45)) = W1 ∧ Blk W1 (w.heap.size + 1) (zeroBd.cells (.slice none 0 0)) 45 ∧ Below w.heap.size w W1 ∧ W1.heap.size = w.heap.size + 2 :=
    ⟨_, rfl, blk_new _ _ _ _ (by simp), by go_grown, by simp⟩
  have hm := unmade_calls v W1 (h.below B1)
  unfold Sg.val
  go_enter Try.func17, Try.ntmps17
  go_wp2_with fail
  refine hm.mono ?_
  rintro e w1 ⟨rfl, rfl⟩
  obtain ⟨W9, hW9, X9, _⟩ := setRow_named XR (zeroBd.cells (.slice none 0 0))
  go_wp2_with ((with_reducible refine st_row (ty := 45) XR (Bd.info _ _) (Bd.same _ _ _ _) (Bd.one _ _ _ _) hW9 ?_ ?_ ?_); rfl; rfl)
  refine bodyPost_ret (v := .tuple #[zeroBd.val (.slice none 0 0), .int .i64 1]) (open_results X9 rfl rfl) rfl ?_
  exact ⟨rfl, below_row B1 hW9 (by omega)⟩
set_option maxHeartbeats 1000000 in
set_option maxRecDepth 100000 in
theorem unQuorum_calls (v : Value) (g cap : Nat) (kind view seq : Int) (dg s1 s2 : ByteArray) (w : World) (h : Unmade w v) (hB : Blk w g #[.int .i64 0, .string s1, .string s2] 51) :
    Calls Try.prog 18 #[v, .slice (some ⟨g, 0, none⟩) 1 cap, .int .i64 kind, .int .i64 view, .int .i64 seq, .string dg, .int .i64 4] w fun e w' => e = .returned (.int .i64 0) ∧ Below w.heap.size w w' := by
  obtain ⟨hz0, hz1⟩ := zero_of_info infoCnt
  have HO : Hid _ := fun wx hx => unOpen_calls v ⟨0, s1, s2⟩ wx hx
  go_enter Try.func18, Try.ntmps18
  go_wp2
  go_loopw [16, 23] (fun c i wr => ∃ k : Nat, k ≤ 1 ∧ i = .int .i64 k ∧ c = .int .i64 0 ∧ Blk wr w.heap.size (cntA fun _ => false) 63 ∧ Below w.heap.size w wr) (fun _ i _ => 1 - (intOf i).toNat)
  case atStart => exact ⟨0, Nat.zero_le _, rfl, rfl, blk_new _ _ _ _ rfl, (Below.refl _ _).alloc (Nat.le_refl _) _⟩
  case round =>
    obtain ⟨k, hk, rfl, rfl, hC, hb⟩ := hrel
    have hz := hb.size
    have hBl := hC.lt
    by_cases hlt : k < 1
    · obtain rfl : k = 0 := by omega
      have B2 := hB.below hb
      have d1 : wr.cell? ⟨g, 0, none⟩ = some (.int .i64 0) := B2.cell rfl
      have d2 : wr.cell? ⟨g, 1, none⟩ = some (.string s1) := B2.cell rfl
      have d3 : wr.cell? ⟨g, 2, none⟩ = some (.string s2) := B2.cell rfl
      obtain ⟨W1, hW1, XM, B1, Z1⟩ : ∃ W1, (wr.alloc (.cells #[.int .i64 0, .string s1, .string s2] 51)) = W1 ∧ Blk W1 wr.heap.size (Sg.cells ⟨0, s1, s2⟩) 51 ∧ Below wr.heap.size wr W1 ∧ W1.heap.size = wr.heap.size + 1 :=
        ⟨_, rfl, blk_new _ _ _ _ rfl, by go_grown, by simp⟩
      have e0 : W1.cell? ⟨wr.heap.size, 0, none⟩ = some (.int .i64 0) := XM.cell rfl
      have hi := isSigner_calls 0 W1
      have hi1 : isSg 0 = true := by decide
      rw [hi1] at hi
      have hmk : W1.cell? ⟨w.heap.size, 0, none⟩ = some (.bool false) := (hC.below B1).cell (cntA_get _ 0 (by decide))
      have hsz : (Try.prog.info? 51).map (·.size) = some (Sg.cells ⟨0, s1, s2⟩).size := Sg.info _
      have hun := Try.underlying51
      have hU := h.below (hb.trans (B1.mono hz))
      go_wp2_with fail
      refine hi.mono ?_
      rintro e w1 ⟨rfl, rfl⟩
      go_wp2_with ((with_reducible refine rd_row (ty := 51) XM hun rfl hsz ?_ ?_); rfl)
      refine (HO.out _ hU).mono ?_
      rintro e w2 ⟨rfl, hb2⟩
      have hz2 := hb2.size
      unfold zeroBd Bd.val
      go_wp2
      refine ⟨⟨1, by omega, by norm_cast, rfl, ((hC.below B1).below hb2).alloc _, (hb.trans ((B1.trans (hb2.mono (by omega))).mono hz)).alloc (by omega) _⟩, ?_⟩
      simp [intOf]
    · obtain rfl : k = 1 := by omega
      go_wp2
      go_ret
      exact ⟨rfl, hb⟩

set_option maxHeartbeats 1000000 in
set_option maxRecDepth 100000 in
theorem nobody_calls (who : Int) (s : ByteArray) (d : Bd) (q : Option Addr) (n c : Nat) (w : World) :
    Calls Try.prog 7 #[.int .i64 who, .string s, d.val (.slice q n c)] w fun e w' => e = .returned (.bool true) ∧ Below w.heap.size w w' := by
  have HA : Hid _ := awake_calls
  have hU0 : ∀ wx, Unmade wx (.pointer none) := fun wx => Or.inl rfl
  unfold Bd.val
  go_enter Try.func7, Try.ntmps7
  obtain ⟨W1, hW1, XZ, B1, Z1⟩ : ∃ W1, ((w.alloc (.cells #[.int .i64 d.kind, .int .i64 d.view, .int .i64 d.seq, .int .i64 d.client, .int .i64 d.stamp, .string d.digest, .string d.text, .slice q n c] 45)).alloc (.cells #[.nilIface] 49)) = W1 ∧ (Blk W1 w.heap.size (d.cells (.slice q n c)) 45 ∧ Blk W1 (w.heap.size + 1) #[.nilIface] 49) ∧ Below w.heap.size w W1 ∧ W1.heap.size = w.heap.size + 2 :=
    ⟨_, rfl, ⟨(blk_new _ _ _ _ rfl).alloc _, blk_new _ _ _ _ (by simp)⟩, by go_grown, by simp⟩
  obtain ⟨XD, XZ⟩ := XZ
  have hU1 : ∀ wx, Below W1.heap.size W1 wx → Unmade wx (.pointer (some ⟨w.heap.size + 1, 0, none⟩)) := fun wx hb => Or.inr ⟨_, rfl, XZ.below hb⟩
  have HU1 : Hid _ := hU1
  clear hU1
  have hGi := Bd.info d (.slice q n c)
  go_wp2_with fail
  refine (unSign_calls _ who s _ (hU0 _)).mono ?_
  rintro e w1 ⟨rfl, rfl⟩
  go_wp2_with fail
  refine (unSign_calls _ who s _ (HU1.out _ (Below.refl _ _))).mono ?_
  rintro e w1 ⟨rfl, rfl⟩
  go_wp2_with ((with_reducible refine rd_row (ty := 45) XD Try.underlying45 rfl hGi ?_ ?_); rfl)
  refine (unSeal_calls _ who d q n c _ (hU0 _)).mono ?_
  rintro e w2 ⟨rfl, b2⟩
  have z2 := b2.size
  simp only [Sg.val, zeroSg]
  go_wp2_with fail
  refine (unOpen_calls _ zeroSg _ (HU1.out _ (b2.alloc z2 _))).mono ?_
  rintro e w3 ⟨rfl, b3⟩
  have b3' : Below w1.heap.size w1 w3 := (b2.alloc z2 _).trans (b3.mono (by simp; omega))
  have z3 := b3'.size
  have b4 := b3'.alloc z3 (.cells #[.int .i64 0, .int .i64 0, .int .i64 0, .int .i64 0, .int .i64 0, .string ⟨#[]⟩, .string ⟨#[]⟩, .slice none 0 0] 45)
  simp only [Bd.val, zeroBd]
  clear b3
  go_wp2_with fail
  refine (unDigest_calls _ s _ (hU0 _)).mono ?_
  rintro e w5 ⟨rfl, rfl⟩
  go_wp2_with fail
  refine (unDigest_calls _ s _ (HU1.out _ b4)).mono ?_
  rintro e w5 ⟨rfl, rfl⟩
  go_wp2_with fail
  refine (unCheck_calls _ who s ⟨#[]⟩ _ (hU0 _)).mono ?_
  rintro e w5 ⟨rfl, rfl⟩
  go_wp2_with fail
  refine (unCheck_calls _ who s ⟨#[]⟩ _ (HU1.out _ b4)).mono ?_
  rintro e w5 ⟨rfl, rfl⟩
  go_wp2_with fail
  refine (unIssued_calls _ who s _ (hU0 _)).mono ?_
  rintro e w5 ⟨rfl, rfl⟩
  have z4 := b4.size
  have b5 := b4.alloc z4 (.cells #[.int .i64 0, .string ⟨#[]⟩, .string ⟨#[]⟩] 51)
  go_wp2_with fail
  refine (unQuorum_calls _ (w3.heap.size + 1) 1 3 0 1 s ⟨#[]⟩ ⟨#[]⟩ _ (HU1.out _ b5) (blk_new _ _ _ _ (by simp))).mono ?_
  rintro e w6 ⟨rfl, b6⟩
  go_wp2_with fail
  refine (HA.out _).mono ?_
  rintro e w7 ⟨rfl, b7⟩
  have z6 := b6.size
  have z5 := b5.size
  have B6 : Below w.heap.size w w6 := (B1.trans (b5.mono (by omega))).trans (b6.mono (by omega))
  go_wp2
  go_ret
  exact ⟨rfl, B6.trans (b7.mono B6.size)⟩
end Go.Proofs.Ytpncomnfodiliaa
