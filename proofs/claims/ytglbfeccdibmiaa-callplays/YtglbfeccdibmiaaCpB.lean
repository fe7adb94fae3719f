/- The document's Bytes. -/
import Derived.Test.YtglbfeccdibmiaaCdA
import Derived.Test.YtglbfeccdibmiaaRefL
import Derived.Test.YtglbfeccdibmiaaCaBy
namespace Go.Proofs.Ytglbfeccdibmiaa
open Go.RowKit
set_option linter.unusedSimpArgs false
set_option linter.unusedVariables false
theorem catL8 (x y : List UInt8) : (⟨x.toArray⟩ : ByteArray) ++ ⟨y.toArray⟩ = ⟨(x ++ y).toArray⟩ := by
  apply ByteArray.ext
  simp [ByteArray.data_append]
theorem numI (n : Int) (h : 0 ≤ n ∧ n ≤ 9007199254740992) (w : World) : Calls Try.prog 45 #[.int .i64 n] w fun e w' => e = .returned (.string ⟨(enc n.toNat).toArray⟩) ∧ Below w.heap.size w w' := by
  obtain ⟨k, rfl⟩ := Int.eq_ofNat_of_zero_le h.1
  exact number_ref k w (by omega)
theorem encs_app (a b : List Int) : encs (a ++ b) = encs a ++ encs b := by simp [encs]
theorem encs_od (o : Od) : encs (odN o) = enc o.id.toNat ++ enc o.own.toNat ++ enc (sdN o).toNat ++ enc o.pr.toNat ++ enc o.am.toNat ++ enc o.pl.toNat := by simp [encs, odN]
theorem enc10 (n : Nat) : (enc n).length ≤ 10 := by
  have := encs_len [(n : Int)]
  simpa [encs] using this
theorem odN_fit {B : Bo} (h : BInv B) {o : Od} (ho : o ∈ B.os) : ∀ x ∈ odN o, 0 ≤ x ∧ x ≤ 9007199254740992 := fun x hx => h.fit x (by
  unfold bN bnK
  rw [List.take_length]
  exact List.mem_append.2 (Or.inr (List.mem_flatMap.2 ⟨o, ho, hx⟩)))
set_option maxHeartbeats 8000000 in
set_option maxRecDepth 100000 in
theorem refBytes_calls (lv : Value) (B : Bo) (hI : BInv B) (w : World) (h : Ods w lv B.os) :
    Calls Try.prog 23 #[.agg #[lv, .int .i64 B.nx]] w fun e w' => e = .returned (.string (boB B)) ∧ Below w.heap.size w w' := by
  have hlen := hI.len
  have hnx := hI.nx1
  have hnx2 := hI.nx2
  have HI : Hid _ := hI
  obtain ⟨la, lc, rfl, hcells⟩ := id h
  obtain ⟨W1, hW1, X1, B1, Z1⟩ : ∃ W1, w.alloc (.cells #[.slice la B.os.length lc, .int .i64 B.nx] 27) = W1 ∧ Blk W1 w.heap.size #[.slice la B.os.length lc, .int .i64 B.nx] 27 ∧ Below w.heap.size w W1 ∧ W1.heap.size = w.heap.size + 1 := ⟨_, rfl, blk_new _ _ _ _ rfl, by go_grown, by simp⟩
  have y0 : W1.cell? ⟨w.heap.size, 0, none⟩ = some (.slice la B.os.length lc) := X1.cell rfl
  have y1 : W1.cell? ⟨w.heap.size, 1, none⟩ = some (.int .i64 B.nx) := X1.cell rfl
  have HC : Hid (∀ (k : Nat) (o : Od), B.os[k]? = some o → ∃ g off, la = some ⟨g, off, none⟩ ∧ ∀ j u, (oC o)[j]? = some u → W1.cell? ⟨g, off + k * 6 + j, none⟩ = some u) := fun k o ho => by
    rcases hcells with h0 | ⟨g, off, e, hx⟩
    · rw [h0] at ho; simp at ho
    · exact ⟨g, off, e, fun j u hu => keepY B1 (hx k o j u ho hu)⟩
  have HY0 : Hid (∀ wx, Below W1.heap.size W1 wx → wx.cell? ⟨w.heap.size, 0, none⟩ = some (.slice la B.os.length lc)) := fun wx hx => keepY hx y0
  have HY1 : Hid (∀ wx, Below W1.heap.size W1 wx → wx.cell? ⟨w.heap.size, 1, none⟩ = some (.int .i64 B.nx)) := fun wx hx => keepY hx y1
  have HN1 : Hid _ := fun wx => numI B.nx ⟨by omega, by omega⟩ wx
  have HN2 : Hid _ := fun wx => numI (B.os.length : Int) ⟨by omega, by omega⟩ wx
  have h1 := enc10 B.nx.toNat
  have h2 := enc10 (B.os.length : Int).toNat
  have HE0 : Hid (encs (bnK B 0) = enc B.nx.toNat ++ enc (B.os.length : Int).toNat) := by show _ = _; simp [encs, bnK]
  have HB1 : Hid _ := B1
  generalize hp1 : enc B.nx.toNat = p1 at *
  generalize hp2 : enc (B.os.length : Int).toNat = p2 at *
  have HP1 : Hid _ := hp1
  have HP2 : Hid _ := hp2
  have hc12 := catL8 p1 p2
  have hd12 : ¬ 9223372036854775807 < p1.length + p2.length := by omega
  clear hp1 hp2 h X1 B1 hcells hI
  go_enter Try.func23, Try.ntmps23
  go_wp2_with fail
  refine wp_region_held_drew (S := (fun wx => Below W1.heap.size W1 wx)) (by kernel_rfl) ((Below.refl _ _).drew) (fun hS => ?_)
  refine wpAnyH_take (i := 0) (v := (.pointer (some ⟨w.heap.size, 1, none⟩))) rfl (by kernel_rfl) (by kernel_rfl) (by kernel_rfl) (fun _ _ _ h => h) (Or.inl ⟨by rfl, fun wx hS => by go_simp⟩) hS ?_
  refine wpAnyH_take (i := 1) (v := (.int .i64 B.nx)) rfl (by kernel_rfl) (by kernel_rfl) (by kernel_rfl) (fun _ _ _ h => h) (Or.inl ⟨by rfl, fun wx hS => by have s0 := HY1.out wx hS; go_simp⟩) hS ?_
  refine wpAnyH_take (i := 3) (v := (.pointer (some ⟨w.heap.size, 0, none⟩))) rfl (by kernel_rfl) (by kernel_rfl) (by kernel_rfl) (fun _ _ _ h => h) (Or.inl ⟨by rfl, fun wx hS => by go_simp⟩) hS ?_
  refine wpAnyH_take (i := 4) (v := (.slice la B.os.length lc)) rfl (by kernel_rfl) (by kernel_rfl) (by kernel_rfl) (fun _ _ _ h => h) (Or.inl ⟨by rfl, fun wx hS => by have s0 := HY0.out wx hS; go_simp⟩) hS ?_
  refine wpAnyH_take (i := 5) (v := (.int .i64 B.os.length)) rfl (by kernel_rfl) (by kernel_rfl) (by kernel_rfl) (fun _ _ _ h => h) (Or.inl ⟨by rfl, fun wx hS => by go_simp⟩) hS ?_
  refine wpAnyH_ready (rs := [2]) (by kernel_rfl) (by simp) ?_
  refine AllReadyH.cons rfl (fun K hK => ?_) AllReadyH.nil
  go_simp
  refine Calls.mono (HN1.out _) ?_
  rintro e2 q2 ⟨rfl, bq⟩
  refine hK.out _ _ (hS.trans (bq.mono hS.size)) (fun hS => ?_)
  clear hK
  refine wpAnyH_ready (rs := [6]) (by kernel_rfl) (by simp) ?_
  refine AllReadyH.cons rfl (fun K hK => ?_) AllReadyH.nil
  go_simp
  refine Calls.mono (HN2.out _) ?_
  rintro e6 q6 ⟨rfl, bq⟩
  refine hK.out _ _ (hS.trans (bq.mono hS.size)) (fun hS => ?_)
  clear hK
  refine wpAnyH_take (i := 7) (v := (.string ⟨(p1 ++ p2).toArray⟩)) rfl (by kernel_rfl) (by kernel_rfl) (by kernel_rfl) (fun _ _ _ h => h) (Or.inl ⟨by rfl, fun wx hS => by go_simp⟩) hS ?_
  refine wpAnyH_ready (rs := [8]) (by kernel_rfl) (by simp) ?_
  refine AllReadyH.cons rfl (fun K hK => ?_) AllReadyH.nil
  go_simp
  refine hK.out _ _ hS (fun hS => ?_)
  clear hK
  refine wpAnyH_done (by kernel_rfl) ?_ _
  have HS1 : Hid _ := hS
  clear hS hc12 hd12 y0 y1
  rename World => w2_
  go_wp2_with fail
  go_loopw [3, 4] (fun sv i wr => ∃ (k : Nat) (E : List UInt8), k ≤ B.os.length ∧ i = .int .i64 k ∧ sv = .string ⟨E.toArray⟩ ∧ Hid (E = encs (bnK B k)) ∧ Hid (Below W1.heap.size W1 wr)) (fun _ i _ => B.os.length - (intOf i).toNat)
  case atStart => exact ⟨0, p1 ++ p2, Nat.zero_le _, rfl, rfl, HE0.out.symm, HS1.out⟩
  case round =>
    obtain ⟨k, E, hk, rfl, rfl, HE, HR⟩ := hrel
    obtain ⟨wa, rfl⟩ : ∃ wa, wa = wr := ⟨wr, rfl⟩
    have za := HR.out.size
    have y0 := HY0.out wa HR.out
    by_cases hlt : k < B.os.length
    · have hd : decide ((k : Int) < (B.os.length : Int)) = true := by simp only [decide_eq_true_eq]; omega
      have hd' : (k : Int) < (B.os.length : Int) := by omega
      obtain ⟨o, ho⟩ : ∃ o, B.os[k]? = some o := ⟨B.os[k], by simp [hlt]⟩
      have hom := List.mem_of_getElem? ho
      obtain ⟨g, off, rfl, hx⟩ := HC.out k o ho
      have m0 : wa.cell? ⟨g, off + k * 6, none⟩ = some (.int .i64 o.id) := keepY HR.out (hx 0 _ rfl)
      have m1 : wa.cell? ⟨g, off + k * 6 + 1, none⟩ = some (.int .i64 o.own) := keepY HR.out (hx 1 _ rfl)
      have m2 : wa.cell? ⟨g, off + k * 6 + 2, none⟩ = some (.int .i64 o.pr) := keepY HR.out (hx 2 _ rfl)
      have m3 : wa.cell? ⟨g, off + k * 6 + 3, none⟩ = some (.int .i64 o.am) := keepY HR.out (hx 3 _ rfl)
      have m4 : wa.cell? ⟨g, off + k * 6 + 4, none⟩ = some (.int .i64 o.pl) := keepY HR.out (hx 4 _ rfl)
      have m5 : wa.cell? ⟨g, off + k * 6 + 5, none⟩ = some (.bool o.by) := keepY HR.out (hx 5 _ rfl)
      have hfit := odN_fit HI.out hom
      have HF0 : Hid _ := fun wx => numI o.id (hfit _ (by simp [odN])) wx
      have HF1 : Hid _ := fun wx => numI o.own (hfit _ (by simp [odN])) wx
      have HF2 : Hid _ := fun wx => numI (sdN o) (hfit _ (by simp [odN])) wx
      have HF3 : Hid _ := fun wx => numI o.pr (hfit _ (by simp [odN])) wx
      have HF4 : Hid _ := fun wx => numI o.am (hfit _ (by simp [odN])) wx
      have HF5 : Hid _ := fun wx => numI o.pl (hfit _ (by simp [odN])) wx
      have hel : E.length ≤ 5000 := by
        have h3 := encs_len (bnK B k)
        rw [bnK_len hk] at h3
        rw [HE.out]; omega
      have l0 := enc10 o.id.toNat
      have l1 := enc10 o.own.toNat
      have l2 := enc10 (sdN o).toNat
      have l3 := enc10 o.pr.toNat
      have l4 := enc10 o.am.toNat
      have l5 := enc10 o.pl.toNat
      have HNX : Hid (encs (bnK B (k + 1)) = E ++ enc o.id.toNat ++ enc o.own.toNat ++ enc (sdN o).toNat ++ enc o.pr.toNat ++ enc o.am.toNat ++ enc o.pl.toNat) := by
        show _ = _
        rw [bnK_succ ho, encs_app, encs_od, HE.out]
        simp only [List.append_assoc]
      have HSD : Hid (sdN o = if o.by = true then 0 else 1) := rfl
      generalize enc o.id.toNat = e0 at *
      generalize enc o.own.toNat = e1 at *
      generalize enc (sdN o).toNat = e2 at *
      generalize enc o.pr.toNat = e3 at *
      generalize enc o.am.toNat = e4 at *
      generalize enc o.pl.toNat = e5 at *
      obtain ⟨E1, hE1⟩ : ∃ E1, E ++ e0 = E1 := ⟨_, rfl⟩
      obtain ⟨E2, hE2⟩ : ∃ E2, E1 ++ e1 = E2 := ⟨_, rfl⟩
      obtain ⟨E3, hE3⟩ : ∃ E3, E2 ++ e2 = E3 := ⟨_, rfl⟩
      obtain ⟨E4, hE4⟩ : ∃ E4, E3 ++ e3 = E4 := ⟨_, rfl⟩
      obtain ⟨E5, hE5⟩ : ∃ E5, E4 ++ e4 = E5 := ⟨_, rfl⟩
      obtain ⟨E6, hE6⟩ : ∃ E6, E5 ++ e5 = E6 := ⟨_, rfl⟩
      have HX : Hid (E6 = encs (bnK B (k + 1))) := by show _ = _; rw [HNX.out, ← hE6, ← hE5, ← hE4, ← hE3, ← hE2, ← hE1]
      have n1 : E1.length = E.length + e0.length := by rw [← hE1]; simp
      have n2 : E2.length = E1.length + e1.length := by rw [← hE2]; simp
      have n3 : E3.length = E2.length + e2.length := by rw [← hE3]; simp
      have n4 : E4.length = E3.length + e3.length := by rw [← hE4]; simp
      have n5 : E5.length = E4.length + e4.length := by rw [← hE5]; simp
      have HD : Hid (¬ 9223372036854775807 < E.length + e0.length ∧ ¬ 9223372036854775807 < E1.length + e1.length ∧ ¬ 9223372036854775807 < E2.length + e2.length ∧ ¬ 9223372036854775807 < E3.length + e3.length ∧ ¬ 9223372036854775807 < E4.length + e4.length ∧ ¬ 9223372036854775807 < E5.length + e5.length) := by
        refine ⟨?_, ?_, ?_, ?_, ?_, ?_⟩ <;> omega
      have HCT : Hid ((⟨E.toArray⟩ : ByteArray) ++ ⟨e0.toArray⟩ = ⟨E1.toArray⟩ ∧ (⟨E1.toArray⟩ : ByteArray) ++ ⟨e1.toArray⟩ = ⟨E2.toArray⟩ ∧ (⟨E2.toArray⟩ : ByteArray) ++ ⟨e2.toArray⟩ = ⟨E3.toArray⟩ ∧ (⟨E3.toArray⟩ : ByteArray) ++ ⟨e3.toArray⟩ = ⟨E4.toArray⟩ ∧ (⟨E4.toArray⟩ : ByteArray) ++ ⟨e4.toArray⟩ = ⟨E5.toArray⟩ ∧ (⟨E5.toArray⟩ : ByteArray) ++ ⟨e5.toArray⟩ = ⟨E6.toArray⟩) :=
        ⟨by rw [catL8, hE1], by rw [catL8, hE2], by rw [catL8, hE3], by rw [catL8, hE4], by rw [catL8, hE5], by rw [catL8, hE6]⟩
      obtain ⟨q, hq⟩ : ∃ q, wa.heap.size = q := ⟨_, rfl⟩
      obtain ⟨W6, hW6, X6, B6⟩ : ∃ W6, wa.alloc (.cells #[.int .i64 o.id, .int .i64 o.own, .int .i64 o.pr, .int .i64 o.am, .int .i64 o.pl, .bool o.by] 31) = W6 ∧ Blk W6 q #[.int .i64 o.id, .int .i64 o.own, .int .i64 o.pr, .int .i64 o.am, .int .i64 o.pl, .bool o.by] 31 ∧ Below wa.heap.size wa W6 := ⟨_, rfl, blk_new _ _ _ _ hq.symm, by go_grown⟩
      have HB6 : Hid (Below W1.heap.size W1 W6) := Below.trans HR.out (B6.mono za)
      have x5 : W6.cell? ⟨q, 5, none⟩ = some (.bool o.by) := X6.cell rfl
      have HX0 : Hid (∀ wx, Below W6.heap.size W6 wx → wx.cell? ⟨q, 0, none⟩ = some (.int .i64 o.id)) := fun wx hx => keepY hx (X6.cell rfl)
      have HX1 : Hid (∀ wx, Below W6.heap.size W6 wx → wx.cell? ⟨q, 1, none⟩ = some (.int .i64 o.own)) := fun wx hx => keepY hx (X6.cell rfl)
      have HX2 : Hid (∀ wx, Below W6.heap.size W6 wx → wx.cell? ⟨q, 2, none⟩ = some (.int .i64 o.pr)) := fun wx hx => keepY hx (X6.cell rfl)
      have HX3 : Hid (∀ wx, Below W6.heap.size W6 wx → wx.cell? ⟨q, 3, none⟩ = some (.int .i64 o.am)) := fun wx hx => keepY hx (X6.cell rfl)
      have HX4 : Hid (∀ wx, Below W6.heap.size W6 wx → wx.cell? ⟨q, 4, none⟩ = some (.int .i64 o.pl)) := fun wx hx => keepY hx (X6.cell rfl)
      clear hE1 hE2 hE3 hE4 hE5 hE6 n1 n2 n3 n4 n5 l0 l1 l2 l3 l4 l5 hel hfit hx hom ho X6 B6 HNX HR HE
      have hbz := Below.size HB6.out
      clear hbz
      generalize sdN o = sd at *
      generalize hby : o.by = bb at *
      have HBY_ : Hid _ := hby
      clear hby
      go_upto_region 6 with fail
      clear hW6 m0 m1 m2 m3 m4 m5 y0 hq
      cases bb
      · obtain rfl : sd = 1 := by have := HSD.out; simpa using this
        go_wp2_with fail
        refine wp_region_held_drew (S := (fun wx => Below W6.heap.size W6 wx)) (by kernel_rfl) ((Below.refl _ _).drew) (fun hS => ?_)
        refine wpAnyH_take (i := 0) (v := (.string ⟨E.toArray⟩)) rfl (by kernel_rfl) (by kernel_rfl) (by kernel_rfl) (fun _ _ _ h => h) (Or.inl ⟨by rfl, fun wx hS => by go_simp⟩) hS ?_
        refine wpAnyH_take (i := 1) (v := (.pointer (some ⟨q, 0, none⟩))) rfl (by kernel_rfl) (by kernel_rfl) (by kernel_rfl) (fun _ _ _ h => h) (Or.inl ⟨by rfl, fun wx hS => by go_simp⟩) hS ?_
        refine wpAnyH_take (i := 2) (v := (.int .i64 o.id)) rfl (by kernel_rfl) (by kernel_rfl) (by kernel_rfl) (fun _ _ _ h => h) (Or.inl ⟨by rfl, fun wx hS => by have s0 := HX0.out wx hS; go_simp⟩) hS ?_
        refine wpAnyH_take (i := 5) (v := (.pointer (some ⟨q, 1, none⟩))) rfl (by kernel_rfl) (by kernel_rfl) (by kernel_rfl) (fun _ _ _ h => h) (Or.inl ⟨by rfl, fun wx hS => by go_simp⟩) hS ?_
        refine wpAnyH_take (i := 6) (v := (.int .i64 o.own)) rfl (by kernel_rfl) (by kernel_rfl) (by kernel_rfl) (fun _ _ _ h => h) (Or.inl ⟨by rfl, fun wx hS => by have s0 := HX1.out wx hS; go_simp⟩) hS ?_
        refine wpAnyH_take (i := 9) (v := (.int .i64 1)) rfl (by kernel_rfl) (by kernel_rfl) (by kernel_rfl) (fun _ _ _ h => h) (Or.inl ⟨by rfl, fun wx hS => by go_simp⟩) hS ?_
        refine wpAnyH_take (i := 12) (v := (.pointer (some ⟨q, 2, none⟩))) rfl (by kernel_rfl) (by kernel_rfl) (by kernel_rfl) (fun _ _ _ h => h) (Or.inl ⟨by rfl, fun wx hS => by go_simp⟩) hS ?_
        refine wpAnyH_take (i := 13) (v := (.int .i64 o.pr)) rfl (by kernel_rfl) (by kernel_rfl) (by kernel_rfl) (fun _ _ _ h => h) (Or.inl ⟨by rfl, fun wx hS => by have s0 := HX2.out wx hS; go_simp⟩) hS ?_
        refine wpAnyH_take (i := 16) (v := (.pointer (some ⟨q, 3, none⟩))) rfl (by kernel_rfl) (by kernel_rfl) (by kernel_rfl) (fun _ _ _ h => h) (Or.inl ⟨by rfl, fun wx hS => by go_simp⟩) hS ?_
        refine wpAnyH_take (i := 17) (v := (.int .i64 o.am)) rfl (by kernel_rfl) (by kernel_rfl) (by kernel_rfl) (fun _ _ _ h => h) (Or.inl ⟨by rfl, fun wx hS => by have s0 := HX3.out wx hS; go_simp⟩) hS ?_
        refine wpAnyH_take (i := 20) (v := (.pointer (some ⟨q, 4, none⟩))) rfl (by kernel_rfl) (by kernel_rfl) (by kernel_rfl) (fun _ _ _ h => h) (Or.inl ⟨by rfl, fun wx hS => by go_simp⟩) hS ?_
        refine wpAnyH_take (i := 21) (v := (.int .i64 o.pl)) rfl (by kernel_rfl) (by kernel_rfl) (by kernel_rfl) (fun _ _ _ h => h) (Or.inl ⟨by rfl, fun wx hS => by have s0 := HX4.out wx hS; go_simp⟩) hS ?_
        refine wpAnyH_ready (rs := [3]) (by kernel_rfl) (by simp) ?_
        refine AllReadyH.cons rfl (fun K hK => ?_) AllReadyH.nil
        go_simp
        refine Calls.mono (HF0.out _) ?_
        rintro e3 q3 ⟨rfl, bq⟩
        refine hK.out _ _ (hS.trans (bq.mono hS.size)) (fun hS => ?_)
        clear hK
        refine wpAnyH_take (i := 4) (v := (.string ⟨E1.toArray⟩)) rfl (by kernel_rfl) (by kernel_rfl) (by kernel_rfl) (fun _ _ _ h => h) (Or.inl ⟨by kernel_rfl, fun wx hS => by have t0 := HD.out.1; have t1 := HCT.out.1; go_simp⟩) hS ?_
        refine wpAnyH_ready (rs := [7]) (by kernel_rfl) (by simp) ?_
        refine AllReadyH.cons rfl (fun K hK => ?_) AllReadyH.nil
        go_simp
        refine Calls.mono (HF1.out _) ?_
        rintro e7 q7 ⟨rfl, bq⟩
        refine hK.out _ _ (hS.trans (bq.mono hS.size)) (fun hS => ?_)
        clear hK
        refine wpAnyH_take (i := 8) (v := (.string ⟨E2.toArray⟩)) rfl (by kernel_rfl) (by kernel_rfl) (by kernel_rfl) (fun _ _ _ h => h) (Or.inl ⟨by kernel_rfl, fun wx hS => by have t0 := HD.out.2.1; have t1 := HCT.out.2.1; go_simp⟩) hS ?_
        refine wpAnyH_ready (rs := [10]) (by kernel_rfl) (by simp) ?_
        refine AllReadyH.cons rfl (fun K hK => ?_) AllReadyH.nil
        go_simp
        refine Calls.mono (HF2.out _) ?_
        rintro e10 q10 ⟨rfl, bq⟩
        refine hK.out _ _ (hS.trans (bq.mono hS.size)) (fun hS => ?_)
        clear hK
        refine wpAnyH_take (i := 11) (v := (.string ⟨E3.toArray⟩)) rfl (by kernel_rfl) (by kernel_rfl) (by kernel_rfl) (fun _ _ _ h => h) (Or.inl ⟨by kernel_rfl, fun wx hS => by have t0 := HD.out.2.2.1; have t1 := HCT.out.2.2.1; go_simp⟩) hS ?_
        refine wpAnyH_ready (rs := [14]) (by kernel_rfl) (by simp) ?_
        refine AllReadyH.cons rfl (fun K hK => ?_) AllReadyH.nil
        go_simp
        refine Calls.mono (HF3.out _) ?_
        rintro e14 q14 ⟨rfl, bq⟩
        refine hK.out _ _ (hS.trans (bq.mono hS.size)) (fun hS => ?_)
        clear hK
        refine wpAnyH_take (i := 15) (v := (.string ⟨E4.toArray⟩)) rfl (by kernel_rfl) (by kernel_rfl) (by kernel_rfl) (fun _ _ _ h => h) (Or.inl ⟨by kernel_rfl, fun wx hS => by have t0 := HD.out.2.2.2.1; have t1 := HCT.out.2.2.2.1; go_simp⟩) hS ?_
        refine wpAnyH_ready (rs := [18]) (by kernel_rfl) (by simp) ?_
        refine AllReadyH.cons rfl (fun K hK => ?_) AllReadyH.nil
        go_simp
        refine Calls.mono (HF4.out _) ?_
        rintro e18 q18 ⟨rfl, bq⟩
        refine hK.out _ _ (hS.trans (bq.mono hS.size)) (fun hS => ?_)
        clear hK
        refine wpAnyH_take (i := 19) (v := (.string ⟨E5.toArray⟩)) rfl (by kernel_rfl) (by kernel_rfl) (by kernel_rfl) (fun _ _ _ h => h) (Or.inl ⟨by kernel_rfl, fun wx hS => by have t0 := HD.out.2.2.2.2.1; have t1 := HCT.out.2.2.2.2.1; go_simp⟩) hS ?_
        refine wpAnyH_ready (rs := [22]) (by kernel_rfl) (by simp) ?_
        refine AllReadyH.cons rfl (fun K hK => ?_) AllReadyH.nil
        go_simp
        refine Calls.mono (HF5.out _) ?_
        rintro e22 q22 ⟨rfl, bq⟩
        refine hK.out _ _ (hS.trans (bq.mono hS.size)) (fun hS => ?_)
        clear hK
        refine wpAnyH_take (i := 23) (v := (.string ⟨E6.toArray⟩)) rfl (by kernel_rfl) (by kernel_rfl) (by kernel_rfl) (fun _ _ _ h => h) (Or.inl ⟨by kernel_rfl, fun wx hS => by have t0 := HD.out.2.2.2.2.2; have t1 := HCT.out.2.2.2.2.2; go_simp⟩) hS ?_
        refine wpAnyH_ready (rs := [24]) (by kernel_rfl) (by simp) ?_
        refine AllReadyH.cons rfl (fun K hK => ?_) AllReadyH.nil
        go_simp
        refine hK.out _ _ hS (fun hS => ?_)
        clear hK
        refine wpAnyH_done (by kernel_rfl) ?_ _
        go_wp2_with fail
        refine ⟨⟨k + 1, E6, by omega, by norm_cast, rfl, HX.out, Below.trans HB6.out (hS.mono (Below.size HB6.out))⟩, by simp [intOf]; omega⟩
      · obtain rfl : sd = 0 := by have := HSD.out; simpa using this
        go_wp2_with fail
        refine wp_region_held_drew (S := (fun wx => Below W6.heap.size W6 wx)) (by kernel_rfl) ((Below.refl _ _).drew) (fun hS => ?_)
        refine wpAnyH_take (i := 0) (v := (.string ⟨E.toArray⟩)) rfl (by kernel_rfl) (by kernel_rfl) (by kernel_rfl) (fun _ _ _ h => h) (Or.inl ⟨by rfl, fun wx hS => by go_simp⟩) hS ?_
        refine wpAnyH_take (i := 1) (v := (.pointer (some ⟨q, 0, none⟩))) rfl (by kernel_rfl) (by kernel_rfl) (by kernel_rfl) (fun _ _ _ h => h) (Or.inl ⟨by rfl, fun wx hS => by go_simp⟩) hS ?_
        refine wpAnyH_take (i := 2) (v := (.int .i64 o.id)) rfl (by kernel_rfl) (by kernel_rfl) (by kernel_rfl) (fun _ _ _ h => h) (Or.inl ⟨by rfl, fun wx hS => by have s0 := HX0.out wx hS; go_simp⟩) hS ?_
        refine wpAnyH_take (i := 5) (v := (.pointer (some ⟨q, 1, none⟩))) rfl (by kernel_rfl) (by kernel_rfl) (by kernel_rfl) (fun _ _ _ h => h) (Or.inl ⟨by rfl, fun wx hS => by go_simp⟩) hS ?_
        refine wpAnyH_take (i := 6) (v := (.int .i64 o.own)) rfl (by kernel_rfl) (by kernel_rfl) (by kernel_rfl) (fun _ _ _ h => h) (Or.inl ⟨by rfl, fun wx hS => by have s0 := HX1.out wx hS; go_simp⟩) hS ?_
        refine wpAnyH_take (i := 9) (v := (.int .i64 0)) rfl (by kernel_rfl) (by kernel_rfl) (by kernel_rfl) (fun _ _ _ h => h) (Or.inl ⟨by rfl, fun wx hS => by go_simp⟩) hS ?_
        refine wpAnyH_take (i := 12) (v := (.pointer (some ⟨q, 2, none⟩))) rfl (by kernel_rfl) (by kernel_rfl) (by kernel_rfl) (fun _ _ _ h => h) (Or.inl ⟨by rfl, fun wx hS => by go_simp⟩) hS ?_
        refine wpAnyH_take (i := 13) (v := (.int .i64 o.pr)) rfl (by kernel_rfl) (by kernel_rfl) (by kernel_rfl) (fun _ _ _ h => h) (Or.inl ⟨by rfl, fun wx hS => by have s0 := HX2.out wx hS; go_simp⟩) hS ?_
        refine wpAnyH_take (i := 16) (v := (.pointer (some ⟨q, 3, none⟩))) rfl (by kernel_rfl) (by kernel_rfl) (by kernel_rfl) (fun _ _ _ h => h) (Or.inl ⟨by rfl, fun wx hS => by go_simp⟩) hS ?_
        refine wpAnyH_take (i := 17) (v := (.int .i64 o.am)) rfl (by kernel_rfl) (by kernel_rfl) (by kernel_rfl) (fun _ _ _ h => h) (Or.inl ⟨by rfl, fun wx hS => by have s0 := HX3.out wx hS; go_simp⟩) hS ?_
        refine wpAnyH_take (i := 20) (v := (.pointer (some ⟨q, 4, none⟩))) rfl (by kernel_rfl) (by kernel_rfl) (by kernel_rfl) (fun _ _ _ h => h) (Or.inl ⟨by rfl, fun wx hS => by go_simp⟩) hS ?_
        refine wpAnyH_take (i := 21) (v := (.int .i64 o.pl)) rfl (by kernel_rfl) (by kernel_rfl) (by kernel_rfl) (fun _ _ _ h => h) (Or.inl ⟨by rfl, fun wx hS => by have s0 := HX4.out wx hS; go_simp⟩) hS ?_
        refine wpAnyH_ready (rs := [3]) (by kernel_rfl) (by simp) ?_
        refine AllReadyH.cons rfl (fun K hK => ?_) AllReadyH.nil
        go_simp
        refine Calls.mono (HF0.out _) ?_
        rintro e3 q3 ⟨rfl, bq⟩
        refine hK.out _ _ (hS.trans (bq.mono hS.size)) (fun hS => ?_)
        clear hK
        refine wpAnyH_take (i := 4) (v := (.string ⟨E1.toArray⟩)) rfl (by kernel_rfl) (by kernel_rfl) (by kernel_rfl) (fun _ _ _ h => h) (Or.inl ⟨by kernel_rfl, fun wx hS => by have t0 := HD.out.1; have t1 := HCT.out.1; go_simp⟩) hS ?_
        refine wpAnyH_ready (rs := [7]) (by kernel_rfl) (by simp) ?_
        refine AllReadyH.cons rfl (fun K hK => ?_) AllReadyH.nil
        go_simp
        refine Calls.mono (HF1.out _) ?_
        rintro e7 q7 ⟨rfl, bq⟩
        refine hK.out _ _ (hS.trans (bq.mono hS.size)) (fun hS => ?_)
        clear hK
        refine wpAnyH_take (i := 8) (v := (.string ⟨E2.toArray⟩)) rfl (by kernel_rfl) (by kernel_rfl) (by kernel_rfl) (fun _ _ _ h => h) (Or.inl ⟨by kernel_rfl, fun wx hS => by have t0 := HD.out.2.1; have t1 := HCT.out.2.1; go_simp⟩) hS ?_
        refine wpAnyH_ready (rs := [10]) (by kernel_rfl) (by simp) ?_
        refine AllReadyH.cons rfl (fun K hK => ?_) AllReadyH.nil
        go_simp
        refine Calls.mono (HF2.out _) ?_
        rintro e10 q10 ⟨rfl, bq⟩
        refine hK.out _ _ (hS.trans (bq.mono hS.size)) (fun hS => ?_)
        clear hK
        refine wpAnyH_take (i := 11) (v := (.string ⟨E3.toArray⟩)) rfl (by kernel_rfl) (by kernel_rfl) (by kernel_rfl) (fun _ _ _ h => h) (Or.inl ⟨by kernel_rfl, fun wx hS => by have t0 := HD.out.2.2.1; have t1 := HCT.out.2.2.1; go_simp⟩) hS ?_
        refine wpAnyH_ready (rs := [14]) (by kernel_rfl) (by simp) ?_
        refine AllReadyH.cons rfl (fun K hK => ?_) AllReadyH.nil
        go_simp
        refine Calls.mono (HF3.out _) ?_
        rintro e14 q14 ⟨rfl, bq⟩
        refine hK.out _ _ (hS.trans (bq.mono hS.size)) (fun hS => ?_)
        clear hK
        refine wpAnyH_take (i := 15) (v := (.string ⟨E4.toArray⟩)) rfl (by kernel_rfl) (by kernel_rfl) (by kernel_rfl) (fun _ _ _ h => h) (Or.inl ⟨by kernel_rfl, fun wx hS => by have t0 := HD.out.2.2.2.1; have t1 := HCT.out.2.2.2.1; go_simp⟩) hS ?_
        refine wpAnyH_ready (rs := [18]) (by kernel_rfl) (by simp) ?_
        refine AllReadyH.cons rfl (fun K hK => ?_) AllReadyH.nil
        go_simp
        refine Calls.mono (HF4.out _) ?_
        rintro e18 q18 ⟨rfl, bq⟩
        refine hK.out _ _ (hS.trans (bq.mono hS.size)) (fun hS => ?_)
        clear hK
        refine wpAnyH_take (i := 19) (v := (.string ⟨E5.toArray⟩)) rfl (by kernel_rfl) (by kernel_rfl) (by kernel_rfl) (fun _ _ _ h => h) (Or.inl ⟨by kernel_rfl, fun wx hS => by have t0 := HD.out.2.2.2.2.1; have t1 := HCT.out.2.2.2.2.1; go_simp⟩) hS ?_
        refine wpAnyH_ready (rs := [22]) (by kernel_rfl) (by simp) ?_
        refine AllReadyH.cons rfl (fun K hK => ?_) AllReadyH.nil
        go_simp
        refine Calls.mono (HF5.out _) ?_
        rintro e22 q22 ⟨rfl, bq⟩
        refine hK.out _ _ (hS.trans (bq.mono hS.size)) (fun hS => ?_)
        clear hK
        refine wpAnyH_take (i := 23) (v := (.string ⟨E6.toArray⟩)) rfl (by kernel_rfl) (by kernel_rfl) (by kernel_rfl) (fun _ _ _ h => h) (Or.inl ⟨by kernel_rfl, fun wx hS => by have t0 := HD.out.2.2.2.2.2; have t1 := HCT.out.2.2.2.2.2; go_simp⟩) hS ?_
        refine wpAnyH_ready (rs := [24]) (by kernel_rfl) (by simp) ?_
        refine AllReadyH.cons rfl (fun K hK => ?_) AllReadyH.nil
        go_simp
        refine hK.out _ _ hS (fun hS => ?_)
        clear hK
        refine wpAnyH_done (by kernel_rfl) ?_ _
        go_wp2_with fail
        refine ⟨⟨k + 1, E6, by omega, by norm_cast, rfl, HX.out, Below.trans HB6.out (hS.mono (Below.size HB6.out))⟩, by simp [intOf]; omega⟩
    · have hd : decide ((k : Int) < (B.os.length : Int)) = false := by simp only [decide_eq_false_iff_not]; omega
      have hd' : ¬ (k : Int) < (B.os.length : Int) := by omega
      obtain rfl : k = B.os.length := by omega
      have HFIN : Hid ((⟨E.toArray⟩ : ByteArray) = boB B) := by show _ = _; rw [HE.out]; rfl
      go_wp2
      go_ret
      refine ⟨by rw [← HFIN.out]; rfl, Below.trans HB1.out (Below.mono HR.out (by omega))⟩
end Go.Proofs.Ytglbfeccdibmiaa
