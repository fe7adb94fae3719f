/- What becomes of a log by an act, and by many. -/
import Derived.Test.YtjpmnmgnbpecjaaVlWk
import Derived.Test.YtjpmnmgnbpecjaaVlU
import Derived.Test.YtjpmnmgnbpecjaaVlX
namespace Go.Proofs.Ytjpmnmgnbpecjaa
open Go.Shelf Go.RowKit Go.Lib Go.Sort
open Go.ChangeMaps (setBlock)
set_option linter.unusedSimpArgs false
set_option linter.unusedVariables false
variable {w : World} {p : Nat} {mp : Nat → Option Nat} {L : Lv}
set_option maxHeartbeats 4000000 in
set_option maxRecDepth 100000 in
theorem done0_calls (h : Lg w p mp L) (hi : LInv L) (ak af av aq : Int) (ad at' : ByteArray) (hak : arn ak 6 = 0) (hz1 : ad.size ≤ 140737488351232) (hz2 : at'.size ≤ 140737488351232) :
    Calls Try.prog 21 #[.pointer (some ⟨p, 0, none⟩), .agg #[.int .i64 ak, .int .i64 af, .int .i64 av, .int .i64 aq, .string ad, .string at']] w (Done w p mp (L.enter av)) := by
  obtain ⟨W0, hW0, XA, B0, Z0⟩ : ∃ W0, (w.alloc (.cells #[.int .i64 ak, .int .i64 af, .int .i64 av, .int .i64 aq, .string ad, .string at'] 48)) = W0 ∧ Blk W0 w.heap.size #[.int .i64 ak, .int .i64 af, .int .i64 av, .int .i64 aq, .string ad, .string at'] 48 ∧ Below w.heap.size w W0 ∧ W0.heap.size = w.heap.size + 1 :=
    ⟨_, rfl, blk_new _ _ _ _ rfl, by go_grown, by simp⟩
  have HZ0 : Hid _ := Z0
  have hza : w.heap.size < W0.heap.size := by omega
  clear Z0
  have c0 : W0.cell? ⟨w.heap.size, 0, none⟩ = some (.int .i64 ak) := XA.cell rfl
  have c1 : W0.cell? ⟨w.heap.size, 1, none⟩ = some (.int .i64 af) := XA.cell rfl
  have c2 : W0.cell? ⟨w.heap.size, 2, none⟩ = some (.int .i64 av) := XA.cell rfl
  have c3 : W0.cell? ⟨w.heap.size, 3, none⟩ = some (.int .i64 aq) := XA.cell rfl
  have c4 : W0.cell? ⟨w.heap.size, 4, none⟩ = some (.string ad) := XA.cell rfl
  have c5 : W0.cell? ⟨w.heap.size, 5, none⟩ = some (.string at') := XA.cell rfl
  have HV : Hid _ := enter_calls (h.below B0) hi av
  generalize L.enter av = R at *
  obtain ⟨R1, R2⟩ := R
  have HS0 : Hid (Stp p mp w mp W0) := Stp.of_below B0
  clear h hi
  go_enter Try.func21, Try.ntmps21
  go_wp2_with fail
  refine (around_calls ak 6 _ (by decide) (by decide)).mono ?_
  rintro e wa ⟨rfl, hwa⟩
  obtain rfl := hwa.symm
  rw [hak]
  go_wp2_with fail
  refine Calls.mono HV.out ?_
  rintro e w2 ⟨rfl, mp', l2, s2⟩
  have HR : Hid (Lg w2 p mp' R1 ∧ Stp p mp w mp' w2) := ⟨l2, Stp.trans HS0.out s2⟩
  clear l2 s2
  go_wp2
  go_ret
  exact ⟨rfl, mp', HR.out⟩
set_option maxHeartbeats 4000000 in
set_option maxRecDepth 100000 in
theorem done1_calls (h : Lg w p mp L) (hi : LInv L) (ak af av aq : Int) (ad at' : ByteArray) (hak : arn ak 6 = 1) (hz1 : ad.size ≤ 140737488351232) (hz2 : at'.size ≤ 140737488351232) :
    Calls Try.prog 21 #[.pointer (some ⟨p, 0, none⟩), .agg #[.int .i64 ak, .int .i64 af, .int .i64 av, .int .i64 aq, .string ad, .string at']] w (Done w p mp (L.propose av aq ad at')) := by
  obtain ⟨W0, hW0, XA, B0, Z0⟩ : ∃ W0, (w.alloc (.cells #[.int .i64 ak, .int .i64 af, .int .i64 av, .int .i64 aq, .string ad, .string at'] 48)) = W0 ∧ Blk W0 w.heap.size #[.int .i64 ak, .int .i64 af, .int .i64 av, .int .i64 aq, .string ad, .string at'] 48 ∧ Below w.heap.size w W0 ∧ W0.heap.size = w.heap.size + 1 :=
    ⟨_, rfl, blk_new _ _ _ _ rfl, by go_grown, by simp⟩
  have HZ0 : Hid _ := Z0
  have hza : w.heap.size < W0.heap.size := by omega
  clear Z0
  have c0 : W0.cell? ⟨w.heap.size, 0, none⟩ = some (.int .i64 ak) := XA.cell rfl
  have c1 : W0.cell? ⟨w.heap.size, 1, none⟩ = some (.int .i64 af) := XA.cell rfl
  have c2 : W0.cell? ⟨w.heap.size, 2, none⟩ = some (.int .i64 av) := XA.cell rfl
  have c3 : W0.cell? ⟨w.heap.size, 3, none⟩ = some (.int .i64 aq) := XA.cell rfl
  have c4 : W0.cell? ⟨w.heap.size, 4, none⟩ = some (.string ad) := XA.cell rfl
  have c5 : W0.cell? ⟨w.heap.size, 5, none⟩ = some (.string at') := XA.cell rfl
  have HV : Hid _ := propose_calls (h.below B0) hi av aq ad at' (by omega) (by omega)
  generalize L.propose av aq ad at' = R at *
  obtain ⟨R1, R2⟩ := R
  have HS0 : Hid (Stp p mp w mp W0) := Stp.of_below B0
  clear h hi
  go_enter Try.func21, Try.ntmps21
  go_wp2_with fail
  refine (around_calls ak 6 _ (by decide) (by decide)).mono ?_
  rintro e wa ⟨rfl, hwa⟩
  obtain rfl := hwa.symm
  rw [hak]
  go_wp2_with fail
  refine Calls.mono HV.out ?_
  rintro e w2 ⟨rfl, mp', l2, s2⟩
  have HR : Hid (Lg w2 p mp' R1 ∧ Stp p mp w mp' w2) := ⟨l2, Stp.trans HS0.out s2⟩
  clear l2 s2
  go_wp2
  go_ret
  exact ⟨rfl, mp', HR.out⟩
set_option maxHeartbeats 4000000 in
set_option maxRecDepth 100000 in
theorem done5_calls (h : Lg w p mp L) (hi : LInv L) (ak af av aq : Int) (ad at' : ByteArray) (hak : arn ak 6 = 5) (hz1 : ad.size ≤ 140737488351232) (hz2 : at'.size ≤ 140737488351232) :
    Calls Try.prog 21 #[.pointer (some ⟨p, 0, none⟩), .agg #[.int .i64 ak, .int .i64 af, .int .i64 av, .int .i64 aq, .string ad, .string at']] w (Done w p mp (L.cut aq)) := by
  obtain ⟨W0, hW0, XA, B0, Z0⟩ : ∃ W0, (w.alloc (.cells #[.int .i64 ak, .int .i64 af, .int .i64 av, .int .i64 aq, .string ad, .string at'] 48)) = W0 ∧ Blk W0 w.heap.size #[.int .i64 ak, .int .i64 af, .int .i64 av, .int .i64 aq, .string ad, .string at'] 48 ∧ Below w.heap.size w W0 ∧ W0.heap.size = w.heap.size + 1 :=
    ⟨_, rfl, blk_new _ _ _ _ rfl, by go_grown, by simp⟩
  have HZ0 : Hid _ := Z0
  have hza : w.heap.size < W0.heap.size := by omega
  clear Z0
  have c0 : W0.cell? ⟨w.heap.size, 0, none⟩ = some (.int .i64 ak) := XA.cell rfl
  have c1 : W0.cell? ⟨w.heap.size, 1, none⟩ = some (.int .i64 af) := XA.cell rfl
  have c2 : W0.cell? ⟨w.heap.size, 2, none⟩ = some (.int .i64 av) := XA.cell rfl
  have c3 : W0.cell? ⟨w.heap.size, 3, none⟩ = some (.int .i64 aq) := XA.cell rfl
  have c4 : W0.cell? ⟨w.heap.size, 4, none⟩ = some (.string ad) := XA.cell rfl
  have c5 : W0.cell? ⟨w.heap.size, 5, none⟩ = some (.string at') := XA.cell rfl
  have HV : Hid _ := cut_calls (h.below B0) hi aq
  generalize L.cut aq = R at *
  obtain ⟨R1, R2⟩ := R
  have HS0 : Hid (Stp p mp w mp W0) := Stp.of_below B0
  clear h hi
  go_enter Try.func21, Try.ntmps21
  go_wp2_with fail
  refine (around_calls ak 6 _ (by decide) (by decide)).mono ?_
  rintro e wa ⟨rfl, hwa⟩
  obtain rfl := hwa.symm
  rw [hak]
  go_wp2_with fail
  refine Calls.mono HV.out ?_
  rintro e w2 ⟨rfl, mp', l2, s2⟩
  have HR : Hid (Lg w2 p mp' R1 ∧ Stp p mp w mp' w2) := ⟨l2, Stp.trans HS0.out s2⟩
  clear l2 s2
  go_wp2
  go_ret
  exact ⟨rfl, mp', HR.out⟩
set_option maxHeartbeats 16000000 in
set_option maxRecDepth 100000 in
theorem done4_calls (h : Lg w p mp L) (hi : LInv L) (ak af av aq : Int) (ad at' : ByteArray) (hak : arn ak 6 = 4) (hz1 : ad.size ≤ 140737488351232) (hz2 : at'.size ≤ 140737488351232) :
    Calls Try.prog 21 #[.pointer (some ⟨p, 0, none⟩), .agg #[.int .i64 ak, .int .i64 af, .int .i64 av, .int .i64 aq, .string ad, .string at']] w (Done w p mp (L.check (af, at', ⟨#[115]⟩) 5 aq ad)) := by
  obtain ⟨W0, hW0, XA, B0, Z0⟩ : ∃ W0, (w.alloc (.cells #[.int .i64 ak, .int .i64 af, .int .i64 av, .int .i64 aq, .string ad, .string at'] 48)) = W0 ∧ Blk W0 w.heap.size #[.int .i64 ak, .int .i64 af, .int .i64 av, .int .i64 aq, .string ad, .string at'] 48 ∧ Below w.heap.size w W0 ∧ W0.heap.size = w.heap.size + 1 :=
    ⟨_, rfl, blk_new _ _ _ _ rfl, by go_grown, by simp⟩
  have HZ0 : Hid _ := Z0
  have hza : w.heap.size < W0.heap.size := by omega
  clear Z0
  have HV : Hid (∀ wx, Below W0.heap.size W0 wx → Calls Try.prog 39 #[.pointer (some ⟨p, 0, none⟩), .agg #[.int .i64 af, .string at', .string ⟨#[115]⟩], .agg #[.int .i64 5, .int .i64 0, .int .i64 aq, .int .i64 0, .int .i64 0, .string ad, .string ⟨#[]⟩, .slice none 0 0]] wx (Done wx p mp (L.check (af, at', ⟨#[115]⟩) 5 aq ad))) := fun wx hb => check_calls ((h.below B0).below hb) hi af at' ⟨#[115]⟩ aq ad (by omega) (by decide) (by omega)
  have HML : Hid (Lg W0 p mp L) := h.below B0
  have HPL : Hid (p < w.heap.size) := h.lt
  have HM : Hid (∀ wx, Calls Try.prog 37 #[.agg #[.int .i64 ak, .int .i64 af, .int .i64 av, .int .i64 aq, .string ad, .string at']] wx fun e w' => e = .returned (.agg #[.int .i64 af, .string at', .string ⟨#[115]⟩]) ∧ Below wx.heap.size wx w') := fun wx => message_calls ak af av aq ad at' wx
  have HB : Hid (∀ wx, Calls Try.prog 38 #[.agg #[.int .i64 ak, .int .i64 af, .int .i64 av, .int .i64 aq, .string ad, .string at']] wx fun e w' => e = .returned (.agg #[.int .i64 5, .int .i64 0, .int .i64 aq, .int .i64 0, .int .i64 0, .string ad, .string ⟨#[]⟩, .slice none 0 0]) ∧ Below wx.heap.size wx w') := fun wx => body4_calls ak af av aq ad at' wx hak
  have c0 : W0.cell? ⟨w.heap.size, 0, none⟩ = some (.int .i64 ak) := XA.cell rfl
  generalize L.check (af, at', ⟨#[115]⟩) 5 aq ad = R at *
  obtain ⟨R1, R2⟩ := R
  clear h hi
  go_enter Try.func21, Try.ntmps21
  go_wp2_with fail
  refine (around_calls ak 6 _ (by decide) (by decide)).mono ?_
  rintro e wa ⟨rfl, hwa⟩
  obtain rfl := hwa.symm
  rw [hak]
  go_wp2_with fail
  refine wp_region_held_drew (S := (fun wx => wx.cell? ⟨w.heap.size, 0, none⟩ = some (.int .i64 ak) ∧ wx.cell? ⟨w.heap.size, 1, none⟩ = some (.int .i64 af) ∧ wx.cell? ⟨w.heap.size, 2, none⟩ = some (.int .i64 av) ∧ wx.cell? ⟨w.heap.size, 3, none⟩ = some (.int .i64 aq) ∧ wx.cell? ⟨w.heap.size, 4, none⟩ = some (.string ad) ∧ wx.cell? ⟨w.heap.size, 5, none⟩ = some (.string at'))) (by kernel_rfl) ⟨XA.drew.cell rfl, XA.drew.cell rfl, XA.drew.cell rfl, XA.drew.cell rfl, XA.drew.cell rfl, XA.drew.cell rfl⟩ (fun hS => ?_)
  refine wpAnyH_take (i := 0) (v := (.pointer (some ⟨p, 0, none⟩))) rfl (by kernel_rfl) (by kernel_rfl) (by kernel_rfl) (fun _ _ _ h => h) (Or.inl ⟨by kernel_rfl, fun w hS => by obtain ⟨s0, s1, s2, s3, s4, s5⟩ := hS; go_simp⟩) hS ?_
  refine wpAnyH_take (i := 1) (v := (.agg #[.int .i64 ak, .int .i64 af, .int .i64 av, .int .i64 aq, .string ad, .string at'])) rfl (by kernel_rfl) (by kernel_rfl) (by kernel_rfl) (fun _ _ _ h => h) (Or.inl ⟨by kernel_rfl, fun w hS => by obtain ⟨s0, s1, s2, s3, s4, s5⟩ := hS; go_simp⟩) hS ?_
  refine wpAnyH_take (i := 3) (v := (.agg #[.int .i64 ak, .int .i64 af, .int .i64 av, .int .i64 aq, .string ad, .string at'])) rfl (by kernel_rfl) (by kernel_rfl) (by kernel_rfl) (fun _ _ _ h => h) (Or.inl ⟨by kernel_rfl, fun w hS => by obtain ⟨s0, s1, s2, s3, s4, s5⟩ := hS; go_simp⟩) hS ?_
  refine wpAnyH_ready (rs := [2]) (by kernel_rfl) (by simp) ?_
  refine AllReadyH.cons rfl (fun K hK => ?_) AllReadyH.nil
  go_simp
  refine (HM.out _).mono ?_
  rintro e w2 ⟨rfl, hb2⟩
  have b2 : Below W0.heap.size W0 w2 := (Below.refl _ _).drew.trans hb2
  have X2 := XA.below b2
  refine hK.out _ _ ⟨X2.cell rfl, X2.cell rfl, X2.cell rfl, X2.cell rfl, X2.cell rfl, X2.cell rfl⟩ (fun hS => ?_)
  clear hK hb2
  refine wpAnyH_ready (rs := [4]) (by kernel_rfl) (by simp) ?_
  refine AllReadyH.cons rfl (fun K hK => ?_) AllReadyH.nil
  go_simp
  refine (HB.out _).mono ?_
  rintro e w3 ⟨rfl, hb3⟩
  have b3 : Below W0.heap.size W0 w3 := b2.trans (hb3.mono b2.size)
  have X3 := XA.below b3
  refine hK.out _ _ ⟨X3.cell rfl, X3.cell rfl, X3.cell rfl, X3.cell rfl, X3.cell rfl, X3.cell rfl⟩ (fun hS => ?_)
  clear hK hb3
  refine wpAnyH_ready (rs := [5]) (by kernel_rfl) (by simp) ?_
  refine AllReadyH.cons rfl (fun K hK => ?_) AllReadyH.nil
  go_simp
  refine (HV.out _ b3).mono ?_
  rintro e w4 ⟨rfl, mp', h4, s4⟩
  have X4 := s4.keep (Lg.below HML.out b3) X3 (by have := HPL.out; omega)
  refine hK.out _ _ ⟨X4.cell rfl, X4.cell rfl, X4.cell rfl, X4.cell rfl, X4.cell rfl, X4.cell rfl⟩ (fun hS => ?_)
  clear hK
  have HR : Hid (Lg w4 p mp' R1 ∧ Stp p mp w mp' w4) := ⟨h4, (Stp.of_below (B0.trans (b3.mono B0.size))).trans s4⟩
  refine wpAnyH_take (i := 6) (v := (.int .i64 R2)) rfl (by kernel_rfl) (by kernel_rfl) (by kernel_rfl) (fun _ _ _ h => h) (Or.inl ⟨by kernel_rfl, fun w hS => by obtain ⟨s0, s1, s2, s3, s4, s5⟩ := hS; go_simp⟩) hS ?_
  refine wpAnyH_done (by kernel_rfl) ?_ _
  clear hS X4 h4 s4 HV HM HB
  go_simp
  go_wp2
  go_ret
  exact ⟨rfl, mp', HR.out⟩
/-- What an act makes of a log. -/
def Lv.act (L : Lv) (a : Ac) : Lv × Int :=
  if arn a.kind 6 = 0 then L.enter a.vw else if arn a.kind 6 = 1 then L.propose a.vw a.sq a.dg a.tx
  else if arn a.kind 6 = 2 then L.vote (a.frm, a.tx, ⟨#[115]⟩) 3 a.vw a.sq a.dg else if arn a.kind 6 = 3 then L.vote (a.frm, a.tx, ⟨#[115]⟩) 4 a.vw a.sq a.dg
  else if arn a.kind 6 = 4 then L.check (a.frm, a.tx, ⟨#[115]⟩) 5 a.sq a.dg else L.cut a.sq
theorem act_calls (h : Lg w p mp L) (hi : LInv L) (a : Ac) (hf : a.fit) : Calls Try.prog 21 #[.pointer (some ⟨p, 0, none⟩), .agg #[.int .i64 a.kind, .int .i64 a.frm, .int .i64 a.vw, .int .i64 a.sq, .string a.dg, .string a.tx]] w (Done w p mp (L.act a)) := by
  obtain ⟨h1, h2⟩ := arn_ok a.kind 6 (by decide)
  unfold Lv.act
  obtain g | g | g | g | g | g : arn a.kind 6 = 0 ∨ arn a.kind 6 = 1 ∨ arn a.kind 6 = 2 ∨ arn a.kind 6 = 3 ∨ arn a.kind 6 = 4 ∨ arn a.kind 6 = 5 := by omega
  · rw [if_pos g]; exact done0_calls h hi _ _ _ _ _ _ g hf.1 hf.2
  · rw [if_neg (by omega), if_pos g]; exact done1_calls h hi _ _ _ _ _ _ g hf.1 hf.2
  · rw [if_neg (by omega), if_neg (by omega), if_pos g]; exact done2_calls h hi _ _ _ _ _ _ g hf.1 hf.2
  · rw [if_neg (by omega), if_neg (by omega), if_neg (by omega), if_pos g]; exact done3_calls h hi _ _ _ _ _ _ g hf.1 hf.2
  · rw [if_neg (by omega), if_neg (by omega), if_neg (by omega), if_neg (by omega), if_pos g]; exact done4_calls h hi _ _ _ _ _ _ g hf.1 hf.2
  · rw [if_neg (by omega), if_neg (by omega), if_neg (by omega), if_neg (by omega), if_neg (by omega)]; exact done5_calls h hi _ _ _ _ _ _ g hf.1 hf.2
theorem vts_sub {L L' : Lv} (hn : L'.n = L.n) (hi : LInv L) (hlo : 0 ≤ L'.lo ∧ L'.lo ≤ 1073741824) (hc : L'.ck = L.ck) (hs : ∀ k, k < 8 → (L'.sl k).pr = (L.sl k).pr ∧ (L'.sl k).co = (L.sl k).co ∨ (L'.sl k).pr = [] ∧ (L'.sl k).co = []) : LInv L' :=
  ⟨by rw [hn]; exact hi.n, hlo, fun j hj => by
    rw [hn]
    unfold Lv.vts
    split
    · rw [hc]; exact hi.ck
    · have hk : j / 2 < 8 := by omega
      split
      · rcases hs (j / 2) hk with e | e
        · rw [e.1]; exact hi.pr hk
        · rw [e.1]; exact VOk.nil _
      · rcases hs (j / 2) hk with e | e
        · rw [e.2]; exact hi.co hk
        · rw [e.2]; exact VOk.nil _⟩
theorem enter_ok (hi : LInv L) (hf : Fl L) (v : Int) : LInv (L.enter v).1 ∧ Fl (L.enter v).1 ∧ (L.enter v).1.n = L.n := by
  unfold Lv.enter
  split
  · exact ⟨hi, hf, rfl⟩
  · exact ⟨vts_sub (L := L) rfl hi hi.lo rfl (fun k _ => Or.inr ⟨rfl, rfl⟩), fun k => hf k, rfl⟩
theorem cut_ok (hi : LInv L) (hf : Fl L) (q : Int) : LInv (L.cut q).1 ∧ Fl (L.cut q).1 ∧ (L.cut q).1.n = L.n := by
  unfold Lv.cut
  split
  · exact ⟨hi, hf, rfl⟩
  · rename_i g
    have hlo := hi.lo
    refine ⟨vts_sub (L := L) rfl hi ?_ rfl (fun k _ => ?_), fun k => ?_, rfl⟩
    · show 0 ≤ q ∧ q ≤ 1073741824
      omega
    · by_cases e : L.num k ≤ q
      · exact Or.inr (by constructor <;> simp [e, noSlot])
      · exact Or.inl (by constructor <;> simp [e])
    · by_cases e : L.num k ≤ q
      · simp [e, noSlot]
      · simp only [e, if_false]; exact hf k
theorem check_ok (hi : LInv L) (hf : Fl L) (m : Sgn) (kd q : Int) (d : ByteArray) : LInv (L.check m kd q d).1 ∧ Fl (L.check m kd q d).1 ∧ (L.check m kd q d).1.n = L.n := by
  unfold Lv.check
  split
  · exact ⟨hi, hf, rfl⟩
  · rename_i g0
    split
    · exact ⟨hi, hf, rfl⟩
    · split
      · exact ⟨hi, hf, rfl⟩
      · split
        · exact ⟨hi, hf, rfl⟩
        · have hm : 0 ≤ m.1 ∧ m.1 < L.n := Decidable.byContradiction fun e => g0 (Or.inl e)
          refine ⟨⟨hi.n, hi.lo, fun j hj => ?_⟩, hf, rfl⟩
          show VOk L.n _
          unfold Lv.vts
          split
          · exact hi.ck.put hm.1 hm.2 rfl
          · split
            · exact hi.pr (by omega)
            · exact hi.co (by omega)
theorem act_ok (hi : LInv L) (hf : Fl L) (a : Ac) : LInv (L.act a).1 ∧ Fl (L.act a).1 ∧ (L.act a).1.n = L.n := by
  unfold Lv.act
  split
  · exact enter_ok hi hf _
  · split
    · exact propose_ok hi hf _ _ _ _
    · split
      · exact vote_ok hi hf _ _ _ _ _
      · split
        · exact vote_ok hi hf _ _ _ _ _
        · split
          · exact check_ok hi hf _ _ _ _
          · exact cut_ok hi hf _
/-- A log behind some acts. -/
def runs (L : Lv) : List Ac → Lv
  | [] => L
  | a :: r => runs (L.act a).1 r
theorem runs_snoc (L : Lv) (l : List Ac) (a : Ac) : runs L (l ++ [a]) = ((runs L l).act a).1 := by
  induction l generalizing L with
  | nil => rfl
  | cons b l ih => exact ih _
set_option maxHeartbeats 16000000 in
set_option maxRecDepth 100000 in
theorem begun_calls (v : Value) (l : List Ac) (w w0 : World) (hl : Acs w0 v l) (h0 : Below w0.heap.size w0 w) : Calls Try.prog 8 #[v] w fun e w' => e = .returned (.pointer (some ⟨w.heap.size, 0, none⟩)) ∧ ∃ mp, Ats w.heap.size w w' w.heap.size mp (runs (Lv.new 7) (l.take 80)) := by
  obtain ⟨a, cap, rfl, hc⟩ := hl.any
  have HC : Hid _ := hc
  have HN := new_calls 7 (Or.inr (Or.inl rfl)) w
  have hz0 := h0.size
  clear hl hc
  go_enter Try.func8, Try.ntmps8
  go_wp2_with fail
  refine HN.mono ?_
  rintro e w1 ⟨rfl, l1, b1, q1⟩
  have A1 : Hid (Ats w.heap.size w w1 w.heap.size (fun _ => none) (Lv.new 7)) := ⟨l1, b1, Nat.le_refl _, fun _ _ _ h => (by cases h), new_inv (Or.inr (Or.inl rfl)), fun k => Nat.zero_le 13⟩
  clear l1 b1 HN
  go_wp2_with fail
  go_loopw [5] (fun iv wr => ∃ (k : Nat) (mpk : Nat → Option Nat), k ≤ l.length ∧ k ≤ 80 ∧ iv = .int .i64 k ∧ Hid (Ats w.heap.size w wr w.heap.size mpk (runs (Lv.new 7) (l.take k)))) (fun iv _ => l.length - (intOf iv).toNat)
  case atStart => exact ⟨0, _, Nat.zero_le _, by decide, rfl, A1⟩
  case round =>
    obtain ⟨k, mpk, hk, hk1, rfl, HA⟩ := hrel
    by_cases hgo : k < l.length ∧ k < 80
    · obtain ⟨hlt, hlt1⟩ := hgo
      have hd1 : decide ((k : Int) < (l.length : Int)) = true := by simp only [decide_eq_true_eq]; omega
      have hd2 : decide ((k : Int) < 80) = true := by simp only [decide_eq_true_eq]; omega
      obtain ⟨g, off, hga, _, hg, hcel, hfit⟩ := HC.out k hlt
      subst hga
      have kc : ∀ j u, (Ac.cells l[k])[j]? = some u → wr.cell? ⟨g, off + k * 6 + j, none⟩ = some u := fun j u hu => by
        have e0 := hcel j u hu
        have e1 := (h0.cell (p := ⟨g, off + k * 6 + j, none⟩) hg).trans e0
        exact (HA.out.bel.cell (p := ⟨g, off + k * 6 + j, none⟩) (by show g < w.heap.size; omega)).trans e1
      have htk : l.take (k + 1) = l.take k ++ [l[k]] := List.take_succ_eq_append_getElem hlt
      have HRn : Hid (runs (Lv.new 7) (l.take (k + 1)) = ((runs (Lv.new 7) (l.take k)).act l[k]).1) := by show _ = _; rw [htk, runs_snoc]
      clear htk hcel
      generalize l[k] = A at *
      generalize runs (Lv.new 7) (l.take k) = M at *
      have HD : Hid _ := act_calls HA.out.lg HA.out.inv A hfit
      have HO : Hid _ := act_ok HA.out.inv HA.out.fl A
      have e0 : wr.cell? ⟨g, off + k * 6, none⟩ = some (.int .i64 A.kind) := kc 0 _ rfl
      have e1 : wr.cell? ⟨g, off + k * 6 + 1, none⟩ = some (.int .i64 A.frm) := kc 1 _ rfl
      have e2 : wr.cell? ⟨g, off + k * 6 + 2, none⟩ = some (.int .i64 A.vw) := kc 2 _ rfl
      have e3 : wr.cell? ⟨g, off + k * 6 + 3, none⟩ = some (.int .i64 A.sq) := kc 3 _ rfl
      have e4 : wr.cell? ⟨g, off + k * 6 + 4, none⟩ = some (.string A.dg) := kc 4 _ rfl
      have e5 : wr.cell? ⟨g, off + k * 6 + 5, none⟩ = some (.string A.tx) := kc 5 _ rfl
      generalize M.act A = R at *
      obtain ⟨R1, R2⟩ := R
      clear kc hfit
      go_wp2_with fail
      refine Calls.mono HD.out ?_
      rintro e w3 ⟨rfl, mp3, l3, s3⟩
      have HA3 : Hid _ := Ats.step HA.out l3 s3 HO.out.1 HO.out.2.1
      clear l3 s3 HA HD HO e0 e1 e2 e3 e4 e5
      go_wp2
      refine ⟨⟨k + 1, mp3, by omega, by omega, by norm_cast, by show Ats _ _ _ _ _ _; rw [HRn.out]; exact HA3.out⟩, by simp [intOf]; omega⟩
    · have htk : l.take 80 = l.take k := by
        by_cases h1 : k < l.length
        · have : k = 80 := by omega
          rw [this]
        · rw [List.take_of_length_le (by omega), List.take_of_length_le (by omega)]
      by_cases h1 : k < l.length
      · have hd1 : decide ((k : Int) < (l.length : Int)) = true := by simp only [decide_eq_true_eq]; omega
        have hd2 : decide ((k : Int) < 80) = false := by simp only [decide_eq_false_iff_not]; omega
        go_wp2
        go_ret
        exact ⟨rfl, mpk, by rw [htk]; exact HA.out⟩
      · have hd1 : decide ((k : Int) < (l.length : Int)) = false := by simp only [decide_eq_false_iff_not]; omega
        go_wp2
        go_ret
        exact ⟨rfl, mpk, by rw [htk]; exact HA.out⟩
set_option maxHeartbeats 4000000 in
set_option maxRecDepth 100000 in
theorem view_calls (h : Lg w p mp L) (hi : LInv L) : Calls Try.prog 9 #[.pointer (some ⟨p, 0, none⟩)] w fun e w' => e = .returned (.int .i64 L.vw) ∧ w' = w := by
  have hm := made_calls h hi
  have c1 := h.c1
  clear h hi
  go_enter Try.func9, Try.ntmps9
  go_wp2_with fail
  refine hm.mono ?_
  rintro e w1 ⟨rfl, rfl⟩
  go_wp2
  go_ret
  exact ⟨rfl, rfl⟩
set_option maxHeartbeats 4000000 in
set_option maxRecDepth 100000 in
theorem low_calls (h : Lg w p mp L) (hi : LInv L) : Calls Try.prog 11 #[.pointer (some ⟨p, 0, none⟩)] w fun e w' => e = .returned (.int .i64 L.lo) ∧ w' = w := by
  have hm := made_calls h hi
  have c1 := h.c2
  clear h hi
  go_enter Try.func11, Try.ntmps11
  go_wp2_with fail
  refine hm.mono ?_
  rintro e w1 ⟨rfl, rfl⟩
  go_wp2
  go_ret
  exact ⟨rfl, rfl⟩
end Go.Proofs.Ytjpmnmgnbpecjaa
