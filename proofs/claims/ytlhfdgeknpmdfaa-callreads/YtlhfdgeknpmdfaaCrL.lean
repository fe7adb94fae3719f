/- Any bytes as a book: the walk. -/
import Derived.Test.YtlhfdgeknpmdfaaCaOe
import Derived.Test.YtlhfdgeknpmdfaaCaS
import Derived.Test.YtlhfdgeknpmdfaaCaSm
namespace Go.Proofs.Ytlhfdgeknpmdfaa
open Go.RowKit
set_option linter.unusedSimpArgs false
set_option linter.unusedVariables false
theorem boB_of {s : ByteArray} {ms : List Int} (h : nm s = some ms) (hg : GoodP ms) : boB ⟨nAt ms 0, rdK ms (cntN ms)⟩ = s := by
  have h0 := hg.1
  have h2 := hg.2.1
  have hc : (cntN ms : Int) = nAt ms 1 := by unfold cntN; omega
  have hb1 := back_of (cntN ms) (by omega) hg.2.2.1
  rw [List.take_of_length_le (by omega)] at hb1
  have hb : bN ⟨nAt ms 0, rdK ms (cntN ms)⟩ = ms := by
    unfold bN bnK
    rw [List.take_length, rdK_len]
    show [nAt ms 0, (cntN ms : Int)] ++ _ = ms
    rw [hc]; exact hb1
  obtain ⟨h1, _, _⟩ := nmF_canon 386 _ ms h
  unfold boB
  rw [hb]
  apply ByteArray.ext
  apply Array.ext'
  rw [h1]
set_option maxHeartbeats 8000000 in
set_option maxRecDepth 100000 in
theorem reads_calls (s : ByteArray) (w : World) (hs : s.size ≤ 140737488351232) :
    Calls Try.prog 4 #[.string s] w fun e w' => e = .returned (.bool true) ∧ Below w.heap.size w w' := by
  have HA : Hid _ := awake_calls
  have HIF : Hid _ := ofOk_iff s
  go_enter Try.func4, Try.ntmps4
  go_wp2_with fail
  refine (of_calls s w hs).mono ?_
  rintro e w1 ⟨b1, ⟨hn, rfl⟩ | ⟨ms, p, v, hn, hg, rfl, K1⟩⟩
  · have HN : Hid _ := hn
    have z1 := b1.size
    clear hn
    go_wp2_with fail
    refine Calls.mono (refOf_calls s w1 hs) ?_
    rintro e w2 ⟨b2, ⟨hn2, q, n, c, x, rfl⟩ | ⟨ms, lv, h1, h2, rfl, h3, -⟩⟩
    · have B2 : Below w.heap.size w w2 := b1.trans (b2.mono z1)
      obtain ⟨W3, hW3, B3⟩ : ∃ W3, w2.alloc (.cells #[.slice q n c, .int .i64 x] 34) = W3 ∧ Below w2.heap.size w2 W3 := ⟨_, rfl, by go_grown⟩
      have B3' := B2.trans (B3.mono B2.size)
      clear hn2 b2 B3
      go_wp2_with fail
      refine (HA.out _).mono ?_
      rintro e w4 ⟨rfl, b4⟩
      go_wp2
      go_ret
      exact ⟨rfl, B3'.trans (b4.mono B3'.size)⟩
    · exact absurd (HIF.out.2 ⟨ms, h1, h2⟩) HN.out
  · have z1 := b1.size
    have HN : Hid _ := hn
    have HG : Hid _ := hg
    have HOKs : Hid (OfOk s) := ⟨ms, hn, hg⟩
    obtain ⟨hml, hmf⟩ := nm_fit hn
    have HBS : Hid (boB ⟨nAt ms 0, rdK ms (cntN ms)⟩ = s) := boB_of hn hg
    have HK1 : Hid _ := K1
    clear hn hg K1 hmf
    go_wp2_with fail
    refine Calls.mono (refOf_calls s w1 hs) ?_
    rintro e w2 ⟨b2, ⟨hn2, q, n, c, x, rfl⟩ | ⟨ms2, lv, h1, h2, rfl, h3, -⟩⟩
    · exact absurd (HIF.out.1 HOKs.out) hn2
    · have hms : ms2 = ms := by
        have e1 : nmF 401 s.data.toList = some ms := nm_more HN.out
        have e2 : nmF 401 s.data.toList = some ms2 := h1
        rw [e1] at e2
        exact (Option.some.inj e2).symm
      subst hms
      have B2 : Below w.heap.size w w2 := b1.trans (b2.mono z1)
      have z2 := b2.size
      obtain ⟨la, lc, rfl, _⟩ := id h3
      obtain ⟨w3, hW3, X3, B3⟩ : ∃ w3, w2.alloc (.cells #[.slice la (rdK ms2 (cntN ms2)).length lc, .int .i64 (nAt ms2 0)] 34) = w3 ∧ Blk w3 w2.heap.size #[.slice la (rdK ms2 (cntN ms2)).length lc, .int .i64 (nAt ms2 0)] 34 ∧ Below w2.heap.size w2 w3 := ⟨_, rfl, blk_new _ _ _ _ rfl, by go_grown⟩
      have B13 : Below w1.heap.size w1 w3 := b2.trans (B3.mono z2)
      have K3 := Bk.below HK1.out B13
      have O3 : Ods w3 (.slice la (rdK ms2 (cntN ms2)).length lc) (rdK ms2 (cntN ms2)) := Ods.below h3 B3
      have B3' : Below w.heap.size w w3 := B2.trans (B3.mono B2.size)
      have hcl : (rdK ms2 (cntN ms2)).length ≤ 64 := K3.inv.len
      obtain ⟨U, hU⟩ : ∃ U, w2.heap.size = U := ⟨_, rfl⟩
      try rw [hU] at X3
      obtain ⟨nx, HNX⟩ : ∃ nx, Hid (nAt ms2 0 = nx) := ⟨_, rfl⟩
      obtain ⟨l, HLL⟩ : ∃ l, Hid (rdK ms2 (cntN ms2) = l) := ⟨_, rfl⟩
      rw [HNX.out] at HBS X3 K3 hW3 ⊢
      rw [HLL.out] at HBS X3 K3 O3 hW3 hcl ⊢
      have HBY : Hid (∀ wx, Below w3.heap.size w3 wx → Calls Try.prog 8 #[.pointer (some ⟨p, 0, none⟩)] wx fun e w' => e = .returned (.string s) ∧ Below wx.heap.size wx w') := fun wx hb => by
        have := bytes_calls wx (Bk.below K3 hb)
        rw [HBS.out] at this
        exact this
      have HOR : Hid (∀ wx, Below w3.heap.size w3 wx → Calls Try.prog 6 #[.pointer (some ⟨p, 0, none⟩)] wx fun e w' => ∃ v', e = .returned v' ∧ w'.ownsRow wx.heap.size 28 6 v' l.length (odL l) ∧ Below wx.heap.size wx w') := fun wx hb => orders_calls wx (Bk.below K3 hb)
      have HC0 : Hid (∀ wx, Below w3.heap.size w3 wx → wx.cell? ⟨U, 0, none⟩ = some (.slice la l.length lc)) := fun wx hb => keepY hb (X3.cell rfl)
      have HO3 : Hid _ := O3
      have HB3 : Hid _ := B3'
      have hss : (s.toList == s.toList) = true := by simp
      clear h1 h2 h3 b1 b2 B2 B13 B3 X3 K3 O3 HK1 HBS HIF B3'
      go_wp2_with fail
      try rw [hU]
      clear hU hW3
      refine wp_region_held_drew (S := (fun wx => Below w3.heap.size w3 wx)) (by kernel_rfl) ((Below.refl _ _).drew) (fun hS => ?_)
      refine wpAnyH_take (i := 0) (v := (.pointer (some ⟨p, 0, none⟩))) rfl (by kernel_rfl) (by kernel_rfl) (by kernel_rfl) (fun _ _ _ h => h) (Or.inl ⟨by rfl, fun wx hS => by go_simp⟩) hS ?_
      refine wpAnyH_take (i := 1) (v := (.bool true)) rfl (by kernel_rfl) (by kernel_rfl) (by kernel_rfl) (fun _ _ _ h => h) (Or.inl ⟨by rfl, fun wx hS => by go_simp⟩) hS ?_
      refine wpAnyH_take (i := 2) (v := (.bool true)) rfl (by kernel_rfl) (by kernel_rfl) (by kernel_rfl) (fun _ _ _ h => h) (Or.inl ⟨by rfl, fun wx hS => by go_simp⟩) hS ?_
      refine wpAnyH_take (i := 3) (v := (.int .i64 0)) rfl (by kernel_rfl) (by kernel_rfl) (by kernel_rfl) (fun _ _ _ h => h) (Or.inl ⟨by kernel_rfl, fun wx hS => by go_simp⟩) hS ?_
      refine wpAnyH_take (i := 4) (v := (.bool true)) rfl (by kernel_rfl) (by kernel_rfl) (by kernel_rfl) (fun _ _ _ h => h) (Or.inl ⟨by kernel_rfl, fun wx hS => by go_simp⟩) hS ?_
      refine wpAnyH_take (i := 5) (v := (.bool true)) rfl (by kernel_rfl) (by kernel_rfl) (by kernel_rfl) (fun _ _ _ h => h) (Or.inl ⟨by rfl, fun wx hS => by go_simp⟩) hS ?_
      refine wpAnyH_take (i := 6) (v := (.bool true)) rfl (by kernel_rfl) (by kernel_rfl) (by kernel_rfl) (fun _ _ _ h => h) (Or.inl ⟨by rfl, fun wx hS => by go_simp⟩) hS ?_
      refine wpAnyH_take (i := 7) (v := (.pointer (some ⟨p, 0, none⟩))) rfl (by kernel_rfl) (by kernel_rfl) (by kernel_rfl) (fun _ _ _ h => h) (Or.inl ⟨by kernel_rfl, fun wx hS => by go_simp⟩) hS ?_
      refine wpAnyH_take (i := 9) (v := (.string s)) rfl (by kernel_rfl) (by kernel_rfl) (by kernel_rfl) (fun _ _ _ h => h) (Or.inl ⟨by kernel_rfl, fun wx hS => by go_simp⟩) hS ?_
      refine wpAnyH_ready (rs := [8]) (by kernel_rfl) (by simp) ?_
      refine readyH_callK (i := 8) rfl (by kernel_rfl) (fun K hK => ?_)
      go_simp
      refine Calls.mono (HBY.out _ hS) ?_
      rintro e8 q8 ⟨rfl, bq⟩
      have hS8 : Below w3.heap.size w3 q8 := hS.trans (bq.mono hS.size)
      refine hK.out _ _ hS8 (fun hS => ?_)
      clear hK
      refine wpAnyH_take (i := 10) (v := (.bool true)) rfl (by kernel_rfl) (by kernel_rfl) (by kernel_rfl) (fun _ _ _ h => h) (Or.inl ⟨by kernel_rfl, fun wx hS => by go_simp⟩) hS ?_
      refine wpAnyH_take (i := 11) (v := (.bool true)) rfl (by kernel_rfl) (by kernel_rfl) (by kernel_rfl) (fun _ _ _ h => h) (Or.inl ⟨by rfl, fun wx hS => by go_simp⟩) hS ?_
      refine wpAnyH_take (i := 12) (v := (.bool true)) rfl (by kernel_rfl) (by kernel_rfl) (by kernel_rfl) (fun _ _ _ h => h) (Or.inl ⟨by rfl, fun wx hS => by go_simp⟩) hS ?_
      refine wpAnyH_take (i := 13) (v := (.pointer (some ⟨p, 0, none⟩))) rfl (by kernel_rfl) (by kernel_rfl) (by kernel_rfl) (fun _ _ _ h => h) (Or.inl ⟨by kernel_rfl, fun wx hS => by go_simp⟩) hS ?_
      refine wpAnyH_take (i := 15) (v := (.pointer (some ⟨U, 0, none⟩))) rfl (by kernel_rfl) (by kernel_rfl) (by kernel_rfl) (fun _ _ _ h => h) (Or.inl ⟨by kernel_rfl, fun wx hS => by go_simp⟩) hS ?_
      refine wpAnyH_take (i := 16) (v := (.slice la l.length lc)) rfl (by kernel_rfl) (by kernel_rfl) (by kernel_rfl) (fun _ _ _ h => h) (Or.inl ⟨by kernel_rfl, fun wx hS => by have s0 := HC0.out wx hS; go_simp⟩) hS ?_
      refine wpAnyH_ready (rs := [14]) (by kernel_rfl) (by simp) ?_
      refine readyH_callK (i := 14) rfl (by kernel_rfl) (fun K hK => ?_)
      go_simp
      refine Calls.mono (HOR.out _ hS) ?_
      rintro e14 q14 ⟨vo, rfl, owno, bq⟩
      have hS14 : Below w3.heap.size w3 q14 := hS.trans (bq.mono hS.size)
      refine hK.out _ _ hS14 (fun hS => ?_)
      clear hK
      have HOO : Hid _ := owno
      refine wpAnyH_ready (rs := [17]) (by kernel_rfl) (by simp) ?_
      refine readyH_callK (i := 17) rfl (by kernel_rfl) (fun K hK => ?_)
      go_simp
      refine Calls.mono (same_same _ _ l _ (ods_own HOO.out) (Ods.below HO3.out hS) (by omega)) ?_
      rintro e17 q17 ⟨rfl, bq⟩
      have hS17 : Below w3.heap.size w3 q17 := hS.trans (bq.mono hS.size)
      refine hK.out _ _ hS17 (fun hS => ?_)
      clear hK
      refine wpAnyH_take (i := 18) (v := (.bool true)) rfl (by kernel_rfl) (by kernel_rfl) (by kernel_rfl) (fun _ _ _ h => h) (Or.inl ⟨by rfl, fun wx hS => by go_simp⟩) hS ?_
      refine wpAnyH_take (i := 19) (v := (.bool true)) rfl (by kernel_rfl) (by kernel_rfl) (by kernel_rfl) (fun _ _ _ h => h) (Or.inl ⟨by rfl, fun wx hS => by go_simp⟩) hS ?_
      refine wpAnyH_ready (rs := [20]) (by kernel_rfl) (by simp) ?_
      refine readyH_callK (i := 20) rfl (by kernel_rfl) (fun K hK => ?_)
      go_simp
      refine Calls.mono (HA.out _) ?_
      rintro e20 q20 ⟨rfl, bq⟩
      have hS20 : Below w3.heap.size w3 q20 := hS.trans (bq.mono hS.size)
      refine hK.out _ _ hS20 (fun hS => ?_)
      clear hK
      refine wpAnyH_take (i := 21) (v := (.bool true)) rfl (by kernel_rfl) (by kernel_rfl) (by kernel_rfl) (fun _ _ _ h => h) (Or.inl ⟨by rfl, fun wx hS => by go_simp⟩) hS ?_
      refine wpAnyH_ready (rs := [22]) (by kernel_rfl) (by simp) ?_
      refine AllReadyH.cons rfl (fun K hK => ?_) AllReadyH.nil
      go_simp
      refine hK.out _ _ hS (fun hS => ?_)
      clear hK
      refine wpAnyH_done (by kernel_rfl) ?_ _
      go_wp2
      go_ret
      exact ⟨rfl, HB3.out.trans (hS.mono (Below.size HB3.out))⟩
end Go.Proofs.Ytlhfdgeknpmdfaa
