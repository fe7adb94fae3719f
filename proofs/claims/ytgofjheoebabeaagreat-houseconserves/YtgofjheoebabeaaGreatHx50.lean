/- HouseClears for every script and client: it answers true. -/
import Derived.Test.YtgofjheoebabeaaGreatHx49
import Derived.Test.YtgofjheoebabeaaGreatHx48
import Derived.Test.YtgofjheoebabeaaGreatHx41
import Derived.Test.YtgofjheoebabeaaGreatHx42
import Derived.Test.YtgofjheoebabeaaGreatHx05
namespace Go.Proofs.YtgofjheoebabeaaGreat
open Go.RowKit
set_option linter.unusedSimpArgs false
set_option linter.unusedVariables false

theorem keepB {w w' : World} (hb : Below w.heap.size w w') {a : Addr} {u : Value} (h : w.cell? a = some u) : w'.cell? a = some u := (hb.cell (World.block_lt_of_cell? w _ h)).trans h
/-- What a tick by anybody does behind the last request of a client. -/
theorem tick_any {w : World} {base : Nat} {X : Ad} {H : Hs} (h : Hm w base X H) (hl : H.l.length = 3) (hn : H.now ≤ 60) (hm : H.ms.length = H.g) (who : Int) {op : ByteArray} (ho : ofOpR op = .ok eo4) (last : Int)
    (hlast : last = if 0 ≤ who ∧ who < H.l.length then (Led.kAt H.l who.toNat).n 10 else 0) :
    (∃ e : Int, e ≠ 0 ∧ doR H who (last + 1) op = (⟨#[]⟩, e, H) ∧ (who < 0 ∨ 2 < who ∨ last = 1099511627776)) ∨
    (∃ (r : List UInt8) (H' : Hs), doR H who (last + 1) op = (⟨(0 :: r).toArray⟩, 0, H') ∧ H'.g = H.g ∧ ∀ i, i < H.g → H'.book i = (H.book i).clr) := by
  have hg := h.ha.lg.inv.g4
  by_cases hr : refR H.l who (last + 1) = 0
  · right
    have hd : reqR H who op = tickR endR H := by
      have e : reqR H who op = deedR H who eo4 := by unfold reqR; rw [ho]
      rw [e]
      unfold deedR
      exact if_pos rfl
    obtain ⟨h1, h2⟩ := tick_done (H := H) (by omega) (by omega)
    have hg' : (tickR endR H).2.g = H.g := by
      rcases tickR_hps hg with ⟨_, k, _⟩ | ⟨k, _⟩
      · exact k.g
      · rw [h1] at k; cases k
    obtain ⟨b, r, e1, e2⟩ := layR_head (c := 0) (V := valR H who op) (by omega)
    refine ⟨r, doneS who (last + 1) (tickR endR H) (valR H who op), ?_, hg', fun i hi => h2 i hi⟩
    unfold doR
    rw [if_pos hr, hd, h1, e1, e2.2 rfl]
  · left
    refine ⟨refR H.l who (last + 1), hr, by unfold doR; rw [if_neg hr], ?_⟩
    by_cases hw : 0 ≤ who ∧ who < H.l.length
    · right; right
      rw [if_pos hw] at hlast
      have hs := h.ha.lg.inv.stamp who.toNat (by omega)
      unfold refR at hr
      rw [if_neg (by omega)] at hr
      by_cases h2 : last = 1099511627776
      · exact h2
      · rw [if_neg (by omega), if_neg (by omega)] at hr
        exact absurd rfl hr
    · omega
theorem tickOp_ok : ofOpR ⟨(opB eo4).toArray⟩ = .ok eo4 := of_op eo4 (by kernel_rfl) (by decide)
theorem tickOp_size : (⟨(opB eo4).toArray⟩ : ByteArray).size ≤ maxLen := Nat.le_trans (Nat.le_of_ble_eq_true (show Nat.ble (⟨(opB eo4).toArray⟩ : ByteArray).size 256 = true by kernel_rfl)) (by unfold maxLen; omega)
theorem head_ex (b : UInt8) (r : List UInt8) : ∃ rep : ByteArray, (⟨(b :: r).toArray⟩ : ByteArray) = rep ∧ rep.toList.isEmpty = false ∧ ∃ h : 0 < rep.size, rep[0]'h = b := by
  refine ⟨_, rfl, ?_, ⟨by show 0 < ((b :: r).toArray).size; simp, rfl⟩⟩
  rw [ByteArray.toList_eq]
  simp

set_option maxRecDepth 100000 in
set_option maxHeartbeats 4000000 in
theorem clears_hs (v : Value) (ls : List Rq) (who : Int) (w : World) (hl : Rqs w v ls) (hz : ls.length * 88 ≤ 140737488351232) :
    Calls Tryz.prog 5 #[v, .int .i64 who] w fun e w' => e = .returned (.bool true) ∧ Below w.heap.size w w' := by
  have HB : Hid _ := begun_hs v ls w hl hz
  have HA : Hid _ := awake_calls
  have hlen := runs3 (ls.take 60)
  have hnow := (runsR_now (H := h32) (by decide) (ls.take 60)).2
  have hn0 : h32.now = 0 := rfl
  have hl60 : (ls.take 60).length ≤ 60 := by rw [List.length_take]; omega
  have hpst := runsR_pst (new_pst 3 2) (ls.take 60)
  have hn60 : (runsR h32 (ls.take 60)).now ≤ 60 := by omega
  have hpst2 : Pst (runsR h32 (ls.take 60)) := hpst
  clear hnow hn0 hl60 hpst
  generalize runsR h32 (ls.take 60) = H at *
  go_enter Tryz.func5, Tryz.ntmps5
  go_wp2_with fail
  refine Calls.mono HB.out ?_
  rintro e w1 ⟨X, rfl, m1, b1⟩
  clear HB hl hz
  have HM1 : Hid (Hm w1 w.heap.size X H) := m1
  have HLs : Hid _ := last_hs w1 m1.ha who
  have HHl : Hid _ := hlen
  have HHn : Hid _ := hn60
  have HHp : Hid _ := hpst2
  clear m1 hlen hn60 hpst2
  go_wp2_with fail
  refine Calls.mono HLs.out ?_
  rintro e w2 ⟨rl, rfl, b2⟩
  obtain ⟨last, hlast⟩ : ∃ last, (if 0 ≤ who ∧ who < H.l.length then (Led.kAt H.l who.toNat).n 10 else 0) = last := ⟨_, rfl⟩
  rw [hlast]
  have hlb : 0 ≤ last ∧ last ≤ 1099511627776 := by
    rw [← hlast]
    split
    · next hw => exact HM1.out.ha.lg.inv.stamp who.toNat (by omega)
    · omega
  have HM2 : Hid (Hm w2 w.heap.size X H) := HM1.out.below b2
  have HB2 : Hid (Below w.heap.size w w2) := b1.trans (b2.mono b1.size)
  have HTa : Hid _ := tick_any HM2.out HHl.out.1 HHn.out (by rw [HHl.out.2.2, HHl.out.2.1]) who tickOp_ok last hlast.symm
  have HTx : Hid _ := fun wx => text_hs ea4 wx (by decide)
  rw [ea4_text] at HTx
  have HTX : Hid (∀ wx, Calls Tryz.prog 10 #[.agg #[.int .i64 0, .int .i64 0, .int .i64 1, .int .i64 0, .int .i64 0, .int .i64 0, .int .i64 0, .float .f64 0, .bool false, .string ⟨#[]⟩]] wx fun e w' => e = .returned (.string ⟨(opB eo4).toArray⟩) ∧ Below wx.heap.size wx w') := HTx.out
  have HDo : Hid _ := fun wx hm hB => do_calls (base := w.heap.size) wx (X := X) (H := H) hm hB HHp.out who (last + 1) ⟨(opB eo4).toArray⟩ tickOp_size
  clear HTx hlast b1 b2 HLs
  generalize (⟨(opB eo4).toArray⟩ : ByteArray) = tx at *
  go_wp2_with fail
  refine Calls.mono (HTX.out _) ?_
  rintro e w3 ⟨rfl, b3⟩
  have HM3 : Hid (Hm w3 w.heap.size X H) := HM2.out.below b3
  have HB3 : Hid (Below w.heap.size w w3) := HB2.out.trans (b3.mono HB2.out.size)
  have HD3 : Hid _ := HDo.out w3 HM3.out HB3.out.size
  clear b3 HDo HTX
  rcases HTa.out with ⟨er, her, hD, hcase⟩ | ⟨r, H', hD, hg', hbk⟩
  · rw [hD] at HD3
    have hne : (er != 0) = true := by simpa using her
    clear HTa hD her
    go_wp2_with fail
    refine Calls.mono HD3.out ?_
    rintro e w4 ⟨rfl, X4, m4, t4, p4⟩
    have HB4 : Hid (Below w.heap.size w w4) := t4.below HM3.out HB3.out HB3.out.size
    clear m4 t4 p4 HD3
    rcases hcase with h1 | h1 | h1
    · have k1 : decide (who < 0) = true := decide_eq_true h1
      go_wp2_with fail
      refine (HA.out _).mono ?_
      rintro e w6 ⟨rfl, b6⟩
      go_wp2
      go_ret
      exact ⟨rfl, HB4.out.trans (b6.mono HB4.out.size)⟩
    · have k1 : decide (who < 0) = false := decide_eq_false (by omega)
      have k2 : decide (2 < who) = true := decide_eq_true h1
      go_wp2_with fail
      refine (HA.out _).mono ?_
      rintro e w6 ⟨rfl, b6⟩
      go_wp2
      go_ret
      exact ⟨rfl, HB4.out.trans (b6.mono HB4.out.size)⟩
    · have k3 : (last == 1099511627776) = true := by simpa using h1
      by_cases h0 : who < 0
      · have k1 : decide (who < 0) = true := decide_eq_true h0
        go_wp2_with fail
        refine (HA.out _).mono ?_
        rintro e w6 ⟨rfl, b6⟩
        go_wp2
        go_ret
        exact ⟨rfl, HB4.out.trans (b6.mono HB4.out.size)⟩
      · have k1 : decide (who < 0) = false := decide_eq_false h0
        by_cases h2 : 2 < who
        · have k2 : decide (2 < who) = true := decide_eq_true h2
          go_wp2_with fail
          refine (HA.out _).mono ?_
          rintro e w6 ⟨rfl, b6⟩
          go_wp2
          go_ret
          exact ⟨rfl, HB4.out.trans (b6.mono HB4.out.size)⟩
        · have k2 : decide (2 < who) = false := decide_eq_false h2
          go_wp2_with fail
          refine (HA.out _).mono ?_
          rintro e w6 ⟨rfl, b6⟩
          go_wp2
          go_ret
          exact ⟨rfl, HB4.out.trans (b6.mono HB4.out.size)⟩
  · rw [hD] at HD3
    obtain ⟨rep, hrep, s1, s2, s3⟩ := head_ex 0 r
    rw [hrep] at HD3
    clear hrep
    have HBk : Hid _ := hbk
    have HG : Hid _ := hg'
    clear HTa hD hbk hg'
    go_wp2_with fail
    refine Calls.mono HD3.out ?_
    rintro e w4 ⟨rfl, X4, m4, t4, p4⟩
    have HB4 : Hid (Below w.heap.size w w4) := t4.below HM3.out HB3.out HB3.out.size
    have HM4 : Hid (Hm w4 w.heap.size X4 H') := m4
    have HP4 : Hid (X4.p = X.p) := p4
    clear m4 t4 p4 HD3
    have HI : Hid (∀ i, Cal.BInv (H.book i)) := fun i => by
      cases hB : H.ms[i]? with
      | none => unfold Hs.book; rw [hB]; exact Cal.binv_new
      | some B =>
        obtain ⟨b, hb⟩ := get_both hB (HM1.out.mks.nb.trans HM1.out.mks.nm.symm)
        have e : H.book i = B := by unfold Hs.book; rw [hB]; rfl
        rw [e]
        exact (HM1.out.mks.bk i b B hb hB).inv
    go_wp2
    go_loopw [10] (fun i wr => ∃ g : Nat, g ≤ 2 ∧ i = .int .i64 g ∧ Hid (Hm wr w.heap.size X4 H' ∧ Below w.heap.size w wr)) (fun i _ => 2 - (intOf i).toNat)
    case atStart => exact ⟨0, by omega, rfl, ⟨HM4.out, HB4.out⟩⟩
    case round =>
      clear HM4 HB4
      obtain ⟨g, hg, rfl, HR⟩ := hrel
      by_cases hlt : g < 2
      · have hd : decide ((g : Int) < 2) = true := by simp only [decide_eq_true_eq]; omega
        have hgH : g < H'.g := by rw [HG.out, HHl.out.2.1]; exact hlt
        obtain ⟨B, hB⟩ : ∃ B, H'.ms[g]? = some B := ⟨H'.ms[g]'(by rw [HR.out.1.mks.nm]; exact hgH), by simp⟩
        have HMk : Hid _ := market_hs wr HR.out.1 g hgH hB
        rw [HP4.out] at HMk
        have hap : ∀ x ∈ B.os, ∀ y ∈ B.os, Cal.Od.by x = true → Cal.Od.by y = false → Cal.Od.pr x < Cal.Od.pr y := by
          have e : H'.book g = B := by unfold Hs.book; rw [hB]; rfl
          have e2 := HBk.out g (by rw [HHl.out.2.1]; exact hlt)
          rw [e] at e2
          rw [e2]
          intro x hx y hy bx b_
          exact Cal.clr_apart (HI.out g) hx hy bx b_
        have hl64 : B.os.length ≤ 64 := by
          have e : H'.book g = B := by unfold Hs.book; rw [hB]; rfl
          have e2 := HBk.out g (by rw [HHl.out.2.1]; exact hlt)
          rw [e] at e2
          rw [e2]
          exact (HI.out g).clr.len
        have HAp : Hid _ := hap
        obtain ⟨os, hos⟩ : ∃ os, B.os = os := ⟨_, rfl⟩
        rw [hos] at HMk HAp hl64
        clear hap hB hos
        go_wp2_with fail
        refine Calls.mono HMk.out ?_
        rintro e w5 ⟨v', rfl, own, b5⟩
        obtain ⟨pp, cap, rfl, hc⟩ := Cal.ods_own own
        have HC : Hid _ := hc
        have HR5 : Hid (Hm w5 w.heap.size X4 H' ∧ Below w.heap.size w w5) := ⟨HR.out.1.below b5, HR.out.2.trans (b5.mono HR.out.2.size)⟩
        obtain ⟨n, hn⟩ : ∃ n, os.length = n := ⟨_, rfl⟩
        rw [hn] at hl64 ⊢
        have HLn : Hid _ := hn
        clear own hc hn b5 HMk HR
        go_wp2
        go_loopw [12] (fun i wr => ∃ j : Nat, j ≤ n ∧ i = .int .i64 j ∧ Hid (Below w5.heap.size w5 wr)) (fun i _ => n - (intOf i).toNat)
        case atStart => exact ⟨0, by omega, rfl, Below.refl _ _⟩
        case round =>
          obtain ⟨j, hj, rfl, HBj⟩ := hrel
          by_cases hjt : j < n
          · have hdj : decide ((j : Int) < n) = true := by simp only [decide_eq_true_eq]; omega
            go_wp2
            go_loopw [13] (fun i wr => ∃ k : Nat, k ≤ n ∧ i = .int .i64 k ∧ Hid (Below w5.heap.size w5 wr)) (fun i _ => n - (intOf i).toNat)
            case atStart => exact ⟨0, by omega, rfl, HBj⟩
            case round =>
              clear HBj
              obtain ⟨k, hk, rfl, HBk2⟩ := hrel
              by_cases hkt : k < n
              · have hdk : decide ((k : Int) < n) = true := by simp only [decide_eq_true_eq]; omega
                have hjl : j < os.length := by rw [HLn.out]; exact hjt
                have hkl : k < os.length := by rw [HLn.out]; exact hkt
                rcases HC.out with h0 | ⟨q, off, rfl, hcc⟩
                · exfalso; rw [h0] at hjl; simp at hjl
                have x5 := keepB HBk2.out (hcc j os[j] 5 _ (by simp) rfl)
                have x2 := keepB HBk2.out (hcc j os[j] 2 _ (by simp) rfl)
                have y5 := keepB HBk2.out (hcc k os[k] 5 _ (by simp) rfl)
                have y2 := keepB HBk2.out (hcc k os[k] 2 _ (by simp) rfl)
                have hap := HAp.out os[j] (List.getElem_mem hjl) os[k] (List.getElem_mem hkl)
                obtain ⟨xb, hxb⟩ : ∃ xb, Cal.Od.by os[j] = xb := ⟨_, rfl⟩
                obtain ⟨xp, hxp⟩ : ∃ xp, Cal.Od.pr os[j] = xp := ⟨_, rfl⟩
                obtain ⟨yb, hyb⟩ : ∃ yb, Cal.Od.by os[k] = yb := ⟨_, rfl⟩
                obtain ⟨yp, hyp⟩ : ∃ yp, Cal.Od.pr os[k] = yp := ⟨_, rfl⟩
                rw [hxb, hxp, hyb, hyp] at hap
                rw [hxb] at x5
                rw [hxp] at x2
                rw [hyb] at y5
                rw [hyp] at y2
                clear hcc hxb hxp hyb hyp hjl hkl
                cases xb
                · clear hap
                  go_wp2
                  go_quiet (fail)
                  go_wp2
                  exact ⟨⟨k + 1, by omega, by norm_cast, HBk2.out.trans (Led.drewN_below _ _ _)⟩, by simp [intOf]; omega⟩
                · cases yb
                  · have hle : decide (yp ≤ xp) = false := decide_eq_false (by have := hap rfl rfl; omega)
                    clear hap
                    go_wp2
                    go_quiet (fail)
                    go_wp2
                    exact ⟨⟨k + 1, by omega, by norm_cast, HBk2.out.trans (Led.drewN_below _ _ _)⟩, by simp [intOf]; omega⟩
                  · clear hap
                    go_wp2
                    go_quiet (fail)
                    go_wp2
                    exact ⟨⟨k + 1, by omega, by norm_cast, HBk2.out.trans (Led.drewN_below _ _ _)⟩, by simp [intOf]; omega⟩
              · have hdk : decide ((k : Int) < n) = false := by simp only [decide_eq_false_iff_not]; omega
                go_wp2
                exact ⟨⟨j + 1, by omega, by norm_cast, HBk2⟩, by simp [intOf]; omega⟩
          · have hdj : decide ((j : Int) < n) = false := by simp only [decide_eq_false_iff_not]; omega
            go_wp2
            refine ⟨⟨g + 1, by omega, by norm_cast, HR5.out.1.below HBj.out, HR5.out.2.trans (HBj.out.mono HR5.out.2.size)⟩, ?_⟩
            simp [intOf]; omega
      · have hd : decide ((g : Int) < 2) = false := by simp only [decide_eq_false_iff_not]; omega
        go_wp2_with fail
        refine (HA.out _).mono ?_
        rintro e w6 ⟨rfl, b6⟩
        go_wp2
        go_ret
        exact ⟨rfl, HR.out.2.trans (b6.mono HR.out.2.size)⟩
end Go.Proofs.YtgofjheoebabeaaGreat

namespace Go.Proofs.YtgofjheoebabeaaGreat
open Go.RowKit
set_option linter.unusedSimpArgs false
set_option linter.unusedVariables false

/-- What a request does to the time, and what of it is told. -/
theorem time_cases {H : Hs} (hg : H.g ≤ 4) (hn : 0 ≤ H.now ∧ H.now ≤ 60) (hm : H.ms.length = H.g) (who stamp : Int) (op : ByteArray) (D : ByteArray × Int × Hs) (hD : doR H who stamp op = D) :
    (∃ er : Int, er ≠ 0 ∧ D.2.1 = er ∧ D.2.2.now = H.now) ∨
    (D.2.1 = 0 ∧ D.2.2.now = H.now ∧ ∃ er : Int, er ≠ 0 ∧ opAns (ofOpR op) = #[zeroOo.val, .int .i64 er]) ∨
    (D.2.1 = 0 ∧ D.2.2.now = H.now ∧ ∃ o : Oo, o.k ≠ 1 ∧ opAns (ofOpR op) = #[o.val, .int .i64 0]) ∨
    (D.2.1 = 0 ∧ D.2.2.now = H.now + 1 ∧ D.1 = ⟨#[0]⟩ ++ ⟨(enc (H.now.toNat + 1)).toArray⟩ ∧ ∃ o : Oo, o.k = 1 ∧ opAns (ofOpR op) = #[o.val, .int .i64 0]) := by
  subst hD
  by_cases hr : refR H.l who stamp = 0
  · right
    have e1 : (doR H who stamp op).2.1 = 0 := by unfold doR; rw [if_pos hr]
    cases ho : ofOpR op with
    | error er =>
      left
      refine ⟨e1, ?_, er, ofOpR_nz ho, rfl⟩
      unfold doR
      rw [if_pos hr]
      unfold reqR
      rw [ho]
      rfl
    | ok o =>
      right
      have hN := (doR_rps hg hr ho).now
      by_cases k1 : o.k = 1
      · right
        have hd : reqR H who op = tickR endR H := by
          have e : reqR H who op = deedR H who o := by unfold reqR; rw [ho]
          rw [e]
          unfold deedR
          exact if_pos k1
        have ht : (tickR endR H).1 = 0 := (tick_done (H := H) (by omega) (by omega)).1
        rw [hd, if_pos ⟨ht, k1⟩] at hN
        refine ⟨e1, hN, ?_, o, k1, rfl⟩
        have hv : valR H who op = H.now + 1 := by
          have e : deedR H who o = tickR endR H := by unfold deedR; exact if_pos k1
          have e2 : valR H who op = if (deedR H who o).1 = 0 ∧ o.k = 1 then (deedR H who o).2.now else 0 := by unfold valR; rw [ho]
          rw [e2, e, if_pos ⟨ht, k1⟩]
          rcases tickR_hps hg with ⟨_, h2, _⟩ | ⟨h2, _⟩
          · exact h2.now
          · rw [ht] at h2; cases h2
        have e3 : (doR H who stamp op).1 = layR (reqR H who op).1 (valR H who op) := by unfold doR; rw [if_pos hr]
        rw [e3, hd, ht, hv]
        unfold layR
        have e4 : (H.now + 1).toNat = H.now.toNat + 1 := by omega
        rw [e4]
        rfl
      · left
        rw [if_neg (fun e => k1 e.2)] at hN
        exact ⟨e1, hN, o, k1, rfl⟩
  · left
    refine ⟨refR H.l who stamp, hr, ?_, ?_⟩
    · unfold doR; rw [if_neg hr]
    · unfold doR; rw [if_neg hr]

theorem opAns_form (r : Except Int Oo) : ∃ (po : Oo) (f : Int), opAns r = #[po.val, .int .i64 f] := by
  cases r with
  | ok o => exact ⟨o, 0, rfl⟩
  | error e => exact ⟨zeroOo, e, rfl⟩
set_option maxRecDepth 100000 in
set_option maxHeartbeats 8000000 in
theorem time_hs (v : Value) (ls : List Rq) (w : World) (hl : Rqs w v ls) (hz : ls.length * 88 ≤ 140737488351232) :
    Calls Tryz.prog 6 #[v] w fun e w' => e = .returned (.bool true) ∧ Below w.heap.size w w' := by
  have HB : Hid _ := begun_hs (.slice none 0 0) [] w (Or.inl ⟨⟨none, 0, rfl⟩, rfl⟩) (by simp)
  have HA : Hid _ := awake_calls
  obtain ⟨a, cap, rfl, hc⟩ := hl.any
  have HC : Hid _ := hc
  obtain ⟨n, hn⟩ : ∃ n, ls.length = n := ⟨_, rfl⟩
  rw [hn] at hz ⊢
  have HLn : Hid _ := hn
  clear hc hl hn
  go_enter Tryz.func6, Tryz.ntmps6
  go_wp2_with fail
  refine Calls.mono HB.out ?_
  rintro e w1 ⟨X, rfl, hm, b1⟩
  have HI : Hid (∃ X', Hm w1 w.heap.size X' (runsR h32 (ls.take 0)) ∧ X'.p = X.p ∧ Below w.heap.size w w1) := ⟨X, hm, rfl, b1⟩
  have hnow0 : (runsR h32 (ls.take 0)).now = 0 := rfl
  have HN0 : Hid _ := hnow0
  clear hm b1 HB hnow0
  go_wp2
  go_loopw [4, 5] (fun c i wr => ∃ k : Nat, k ≤ n ∧ k ≤ 60 ∧ i = .int .i64 k ∧ c = .int .i64 (runsR h32 (ls.take k)).now ∧ Hid (∃ X', Hm wr w.heap.size X' (runsR h32 (ls.take k)) ∧ X'.p = X.p ∧ Below w.heap.size w wr)) (fun _ i _ => n - (intOf i).toNat)
  case atStart => exact ⟨0, Nat.zero_le _, by omega, rfl, by rw [HN0.out], HI⟩
  case round =>
    clear HI HN0
    obtain ⟨k, hk, hk1, rfl, rfl, HR⟩ := hrel
    by_cases hgo : k < n ∧ k < 60
    · obtain ⟨hlt, hlt1⟩ := hgo
      have hd1 : decide ((k : Int) < n) = true := by simp only [decide_eq_true_eq]; omega
      have hd2 : decide ((k : Int) < 60) = true := by simp only [decide_eq_true_eq]; omega
      have hlt' : k < ls.length := by rw [HLn.out]; exact hlt
      obtain ⟨q, off, hga, _, hg, hcel, hfit, hsz⟩ := HC.out k hlt'
      subst hga
      obtain ⟨X1, m1, p1, br⟩ := HR.out
      clear HR
      have d0 := keepCellH br (hcel 0 _ rfl) hg
      have d1 := keepCellH br (hcel 1 _ rfl) hg
      have d2 := keepCellH br (hcel 2 _ rfl) hg
      have d3 := keepCellH br (hcel 3 _ rfl) hg
      have d4 := keepCellH br (hcel 4 _ rfl) hg
      have d5 := keepCellH br (hcel 5 _ rfl) hg
      have d6 := keepCellH br (hcel 6 _ rfl) hg
      have d7 := keepCellH br (hcel 7 _ rfl) hg
      have d8 := keepCellH br (hcel 8 _ rfl) hg
      have d9 := keepCellH br (hcel 9 _ rfl) hg
      rw [Nat.add_zero] at d0
      have hrt := runsR_take h32 ls k hlt'
      have HTx : Hid _ := fun wx => text_hs ls[k] wx hfit
      have HOf : Hid _ := fun wx => ofOp_ref ls[k].text wx (text_size _ hsz)
      have HDo : Hid _ := fun wx hm hB => do_calls (base := w.heap.size) wx (X := X1) (H := runsR h32 (ls.take k)) hm hB (runsR_pst (new_pst 3 2) _) ls[k].who ls[k].stamp ls[k].text (text_size _ hsz)
      rw [p1] at HDo
      have hnf : ¬ X1.foot q := fun e => by have := m1.foot_base q e; omega
      have hzr := br.size
      have HM : Hid (Hm wr w.heap.size X1 (runsR h32 (ls.take k))) := m1
      have HX : Hid (X1.p = X.p ∧ Below w.heap.size w wr) := ⟨p1, br⟩
      have HHC : Hid _ := HC.out
      obtain ⟨D, hD⟩ : ∃ D, doR (runsR h32 (ls.take k)) ls[k].who ls[k].stamp ls[k].text = D := ⟨_, rfl⟩
      have h3 := runs3 (ls.take k)
      have hnw := runsR_now (H := h32) (by decide) (ls.take k)
      have hkl : (ls.take k).length ≤ 60 := by rw [List.length_take]; omega
      have hn32 : h32.now = 0 := rfl
      have hcs := time_cases (H := runsR h32 (ls.take k)) (by omega) ⟨by omega, by omega⟩ (by omega) _ _ _ D hD
      have hnb : 0 ≤ (runsR h32 (ls.take k)).now ∧ (runsR h32 (ls.take k)).now ≤ 60 := ⟨by omega, by omega⟩
      have HCs : Hid _ := hcs
      rw [hD] at hrt HDo
      have HRT : Hid _ := hrt
      obtain ⟨rq, hrq⟩ : ∃ rq, ls[k] = rq := ⟨_, rfl⟩
      rw [hrq] at HTx HOf HDo HCs d0 d1 d2 d3 d4 d5 d6 d7 d8 d9
      clear hcs h3 hnw hkl hn32
      obtain ⟨tm, htm⟩ : ∃ tm, (runsR h32 (ls.take k)).now = tm := ⟨_, rfl⟩
      rw [htm] at HCs hnb ⊢
      generalize rq.text = tx at *
      unfold Rq.val Rq.cells at HTx
      obtain ⟨o, ho⟩ : ∃ o, off + k * 10 = o := ⟨_, rfl⟩
      rw [ho] at d0 d1 d2 d3 d4 d5 d6 d7 d8 d9
      have HIx : Hid _ := ho
      clear ho
      generalize rq.who = aw at *
      generalize rq.stamp = as_ at *
      generalize rq.op.k = ok at *
      generalize rq.op.g = og at *
      generalize rq.op.a = oa at *
      generalize rq.op.d = od at *
      generalize rq.op.i = oi at *
      generalize rq.op.pr = op at *
      generalize rq.raw = ar at *
      generalize rq.txt = at_ at *
      clear hrq hrt hD m1 p1 br hcel hfit hsz hlt' htm
      go_wp2_with fail
      go_upto_region 8 with fail
      refine wp_region_held_drew (S := (fun wx => Chg X1.foot wr wx)) (by kernel_rfl) (Chg.of_below (Below.refl wr.heap.size wr) : Chg X1.foot wr wr).drew (fun hS => ?_)
      refine wpAnyH_take (i := 0) (v := .pointer (some ⟨X.p, 0, none⟩)) rfl (by kernel_rfl) (by kernel_rfl) (by kernel_rfl) (fun _ _ _ h => h) (Or.inl ⟨by kernel_rfl, fun w3 hS => by go_simp⟩) hS ?_
      refine wpAnyH_take (i := 1) (v := .slice (some ⟨q, off, none⟩) n cap) rfl (by kernel_rfl) (by kernel_rfl) (by kernel_rfl) (fun _ _ _ h => h) (Or.inl ⟨by kernel_rfl, fun w3 hS => by go_simp⟩) hS ?_
      refine wpAnyH_take (i := 2) (v := .int .i64 k) rfl (by kernel_rfl) (by kernel_rfl) (by kernel_rfl) (fun _ _ _ h => h) (Or.inl ⟨by kernel_rfl, fun w3 hS => by go_simp⟩) hS ?_
      refine wpAnyH_take (i := 3) (v := .pointer (some ⟨q, o, none⟩)) rfl (by kernel_rfl) (by kernel_rfl) (by kernel_rfl) (fun _ _ _ h => h) (Or.inl ⟨by kernel_rfl, fun w3 hS => by go_simp; exact HIx.out⟩) hS ?_
      refine wpAnyH_take (i := 4) (v := .pointer (some ⟨q, o, none⟩)) rfl (by kernel_rfl) (by kernel_rfl) (by kernel_rfl) (fun _ _ _ h => h) (Or.inl ⟨by kernel_rfl, fun w3 hS => by go_simp⟩) hS ?_
      refine wpAnyH_take (i := 5) (v := .int .i64 aw) rfl (by kernel_rfl) (by kernel_rfl) (by kernel_rfl) (fun _ _ _ h => h) (Or.inl ⟨by kernel_rfl, fun w3 hS => by have f0 : w3.cell? ⟨q, o, none⟩ = some (.int .i64 aw) := Chg.cell hS d0 hnf; have f1 : w3.cell? ⟨q, o + 1, none⟩ = some (.int .i64 as_) := Chg.cell hS d1 hnf; have f2 : w3.cell? ⟨q, o + 2, none⟩ = some (.int .i64 ok) := Chg.cell hS d2 hnf; have f3 : w3.cell? ⟨q, o + 3, none⟩ = some (.int .i64 og) := Chg.cell hS d3 hnf; have f4 : w3.cell? ⟨q, o + 4, none⟩ = some (.int .i64 oa) := Chg.cell hS d4 hnf; have f5 : w3.cell? ⟨q, o + 5, none⟩ = some (.int .i64 od) := Chg.cell hS d5 hnf; have f6 : w3.cell? ⟨q, o + 6, none⟩ = some (.int .i64 oi) := Chg.cell hS d6 hnf; have f7 : w3.cell? ⟨q, o + 7, none⟩ = some (.float .f64 op) := Chg.cell hS d7 hnf; have f8 : w3.cell? ⟨q, o + 8, none⟩ = some (.bool ar) := Chg.cell hS d8 hnf; have f9 : w3.cell? ⟨q, o + 9, none⟩ = some (.string at_) := Chg.cell hS d9 hnf; go_simp⟩) hS ?_
      refine wpAnyH_take (i := 6) (v := .slice (some ⟨q, off, none⟩) n cap) rfl (by kernel_rfl) (by kernel_rfl) (by kernel_rfl) (fun _ _ _ h => h) (Or.inl ⟨by kernel_rfl, fun w3 hS => by go_simp⟩) hS ?_
      refine wpAnyH_take (i := 7) (v := .int .i64 k) rfl (by kernel_rfl) (by kernel_rfl) (by kernel_rfl) (fun _ _ _ h => h) (Or.inl ⟨by kernel_rfl, fun w3 hS => by go_simp⟩) hS ?_
      refine wpAnyH_take (i := 8) (v := .pointer (some ⟨q, o, none⟩)) rfl (by kernel_rfl) (by kernel_rfl) (by kernel_rfl) (fun _ _ _ h => h) (Or.inl ⟨by kernel_rfl, fun w3 hS => by go_simp; exact HIx.out⟩) hS ?_
      refine wpAnyH_take (i := 9) (v := .pointer (some ⟨q, o + 1, none⟩)) rfl (by kernel_rfl) (by kernel_rfl) (by kernel_rfl) (fun _ _ _ h => h) (Or.inl ⟨by kernel_rfl, fun w3 hS => by go_simp⟩) hS ?_
      refine wpAnyH_take (i := 10) (v := .int .i64 as_) rfl (by kernel_rfl) (by kernel_rfl) (by kernel_rfl) (fun _ _ _ h => h) (Or.inl ⟨by kernel_rfl, fun w3 hS => by have f0 : w3.cell? ⟨q, o, none⟩ = some (.int .i64 aw) := Chg.cell hS d0 hnf; have f1 : w3.cell? ⟨q, o + 1, none⟩ = some (.int .i64 as_) := Chg.cell hS d1 hnf; have f2 : w3.cell? ⟨q, o + 2, none⟩ = some (.int .i64 ok) := Chg.cell hS d2 hnf; have f3 : w3.cell? ⟨q, o + 3, none⟩ = some (.int .i64 og) := Chg.cell hS d3 hnf; have f4 : w3.cell? ⟨q, o + 4, none⟩ = some (.int .i64 oa) := Chg.cell hS d4 hnf; have f5 : w3.cell? ⟨q, o + 5, none⟩ = some (.int .i64 od) := Chg.cell hS d5 hnf; have f6 : w3.cell? ⟨q, o + 6, none⟩ = some (.int .i64 oi) := Chg.cell hS d6 hnf; have f7 : w3.cell? ⟨q, o + 7, none⟩ = some (.float .f64 op) := Chg.cell hS d7 hnf; have f8 : w3.cell? ⟨q, o + 8, none⟩ = some (.bool ar) := Chg.cell hS d8 hnf; have f9 : w3.cell? ⟨q, o + 9, none⟩ = some (.string at_) := Chg.cell hS d9 hnf; go_simp⟩) hS ?_
      refine wpAnyH_take (i := 11) (v := .slice (some ⟨q, off, none⟩) n cap) rfl (by kernel_rfl) (by kernel_rfl) (by kernel_rfl) (fun _ _ _ h => h) (Or.inl ⟨by kernel_rfl, fun w3 hS => by go_simp⟩) hS ?_
      refine wpAnyH_take (i := 12) (v := .int .i64 k) rfl (by kernel_rfl) (by kernel_rfl) (by kernel_rfl) (fun _ _ _ h => h) (Or.inl ⟨by kernel_rfl, fun w3 hS => by go_simp⟩) hS ?_
      refine wpAnyH_take (i := 13) (v := .pointer (some ⟨q, o, none⟩)) rfl (by kernel_rfl) (by kernel_rfl) (by kernel_rfl) (fun _ _ _ h => h) (Or.inl ⟨by kernel_rfl, fun w3 hS => by go_simp; exact HIx.out⟩) hS ?_
      refine wpAnyH_take (i := 14) (v := .agg #[.int .i64 aw, .int .i64 as_, .int .i64 ok, .int .i64 og, .int .i64 oa, .int .i64 od, .int .i64 oi, .float .f64 op, .bool ar, .string at_]) rfl (by kernel_rfl) (by kernel_rfl) (by kernel_rfl) (fun _ _ _ h => h) (Or.inl ⟨by kernel_rfl, fun w3 hS => by have f0 : w3.cell? ⟨q, o, none⟩ = some (.int .i64 aw) := Chg.cell hS d0 hnf; have f1 : w3.cell? ⟨q, o + 1, none⟩ = some (.int .i64 as_) := Chg.cell hS d1 hnf; have f2 : w3.cell? ⟨q, o + 2, none⟩ = some (.int .i64 ok) := Chg.cell hS d2 hnf; have f3 : w3.cell? ⟨q, o + 3, none⟩ = some (.int .i64 og) := Chg.cell hS d3 hnf; have f4 : w3.cell? ⟨q, o + 4, none⟩ = some (.int .i64 oa) := Chg.cell hS d4 hnf; have f5 : w3.cell? ⟨q, o + 5, none⟩ = some (.int .i64 od) := Chg.cell hS d5 hnf; have f6 : w3.cell? ⟨q, o + 6, none⟩ = some (.int .i64 oi) := Chg.cell hS d6 hnf; have f7 : w3.cell? ⟨q, o + 7, none⟩ = some (.float .f64 op) := Chg.cell hS d7 hnf; have f8 : w3.cell? ⟨q, o + 8, none⟩ = some (.bool ar) := Chg.cell hS d8 hnf; have f9 : w3.cell? ⟨q, o + 9, none⟩ = some (.string at_) := Chg.cell hS d9 hnf; go_simp⟩) hS ?_
      refine wpAnyH_ready (rs := [15]) (by kernel_rfl) (by simp) ?_
      refine AllReadyH.cons rfl (fun K hK => ?_) AllReadyH.nil
      go_simp
      refine (HTx.out _).mono ?_
      rintro e w2 ⟨rfl, b2⟩
      have b2' : Below wr.heap.size wr w2 := ⟨b2.os, b2.tape, b2.output, b2.size, b2.block⟩
      have C2 : Chg X1.foot wr w2 := Chg.of_below b2'
      refine hK.out _ _ C2 (fun hS => ?_)
      clear hK
      refine wpAnyH_ready (rs := [16]) (by kernel_rfl) (by simp) ?_
      refine AllReadyH.cons rfl (fun K hK => ?_) AllReadyH.nil
      go_simp
      refine (HDo.out w2 (HM.out.below b2') (Nat.le_trans hzr b2'.size)).mono ?_
      rintro e w3 ⟨rfl, X3, m3, t3, p3⟩
      have C3 : Chg X1.foot wr w3 := C2.trans (fun q hq => Or.inl hq) t3.chg
      refine hK.out _ _ C3 (fun hS => ?_)
      clear hK
      refine wpAnyH_take (i := 17) (v := .tuple #[.string D.1, .int .i64 D.2.1]) rfl (by kernel_rfl) (by kernel_rfl) (by kernel_rfl) (fun _ _ _ h => h) (Or.inl ⟨by kernel_rfl, fun w3 hS => by go_simp⟩) hS ?_
      refine wpAnyH_take (i := 18) (v := .string D.1) rfl (by kernel_rfl) (by kernel_rfl) (by kernel_rfl) (fun _ _ _ h => h) (Or.inl ⟨by kernel_rfl, fun w3 hS => by go_simp⟩) hS ?_
      refine wpAnyH_take (i := 19) (v := .int .i64 D.2.1) rfl (by kernel_rfl) (by kernel_rfl) (by kernel_rfl) (fun _ _ _ h => h) (Or.inl ⟨by kernel_rfl, fun w3 hS => by go_simp⟩) hS ?_
      refine wpAnyH_take (i := 20) (v := .string D.1) rfl (by kernel_rfl) (by kernel_rfl) (by kernel_rfl) (fun _ _ _ h => h) (Or.inl ⟨by kernel_rfl, fun w3 hS => by go_simp⟩) hS ?_
      refine wpAnyH_take (i := 21) (v := .int .i64 D.2.1) rfl (by kernel_rfl) (by kernel_rfl) (by kernel_rfl) (fun _ _ _ h => h) (Or.inl ⟨by kernel_rfl, fun w3 hS => by go_simp⟩) hS ?_
      refine wpAnyH_done (by kernel_rfl) ?_ _
      have HF : Hid (∃ X', Hm w3 w.heap.size X' (runsR h32 (ls.take (k + 1))) ∧ X'.p = X.p ∧ Below w.heap.size w w3) :=
        ⟨X3, by rw [HRT.out]; exact m3, p3, below_chg HX.out.2 hzr C3 (fun q hq => HM.out.foot_base q hq)⟩
      have HRN : Hid ((runsR h32 (ls.take (k + 1))).now = D.2.2.now) := by show _ = _; rw [HRT.out]
      have e0 : w3.cell? ⟨q, o, none⟩ = some (.int .i64 aw) := Chg.cell C3 d0 hnf
      have e1 : w3.cell? ⟨q, o + 1, none⟩ = some (.int .i64 as_) := Chg.cell C3 d1 hnf
      have e2 : w3.cell? ⟨q, o + 2, none⟩ = some (.int .i64 ok) := Chg.cell C3 d2 hnf
      have e3 : w3.cell? ⟨q, o + 3, none⟩ = some (.int .i64 og) := Chg.cell C3 d3 hnf
      have e4 : w3.cell? ⟨q, o + 4, none⟩ = some (.int .i64 oa) := Chg.cell C3 d4 hnf
      have e5 : w3.cell? ⟨q, o + 5, none⟩ = some (.int .i64 od) := Chg.cell C3 d5 hnf
      have e6 : w3.cell? ⟨q, o + 6, none⟩ = some (.int .i64 oi) := Chg.cell C3 d6 hnf
      have e7 : w3.cell? ⟨q, o + 7, none⟩ = some (.float .f64 op) := Chg.cell C3 d7 hnf
      have e8 : w3.cell? ⟨q, o + 8, none⟩ = some (.bool ar) := Chg.cell C3 d8 hnf
      have e9 : w3.cell? ⟨q, o + 9, none⟩ = some (.string at_) := Chg.cell C3 d9 hnf
      obtain ⟨D1, D2, DH⟩ := D
      simp only at HCs HRN
      clear m3 t3 p3 C3 C2 b2 b2' HDo HM hnf d0 d1 d2 d3 d4 d5 d6 d7 d8 d9 HRT hS HX
      have hir := HIx.out
      go_wp2_with fail
      refine (HTx.out _).mono ?_
      rintro e w4 ⟨rfl, b4⟩
      have HB4 : Hid (Below w3.heap.size w3 w4) := b4
      clear b4 e0 e1 e2 e3 e4 e5 e6 e7 e8 e9
      have hcs2 : ∃ (po : Oo) (f : Int), opAns (ofOpR tx) = #[po.val, .int .i64 f] ∧ ((D2 ≠ 0 ∧ DH.now = tm) ∨ (D2 = 0 ∧ f ≠ 0 ∧ DH.now = tm) ∨ (D2 = 0 ∧ f = 0 ∧ po.k ≠ 1 ∧ DH.now = tm) ∨ (D2 = 0 ∧ f = 0 ∧ po.k = 1 ∧ DH.now = tm + 1 ∧ D1 = ⟨#[0]⟩ ++ ⟨(enc (tm.toNat + 1)).toArray⟩)) := by
        rcases HCs.out with ⟨er, her, h2, hnw⟩ | ⟨h2, hnw, er, her, hop⟩ | ⟨h2, hnw, po, hpo, hop⟩ | ⟨h2, hnw, h3, po, hpo, hop⟩
        · obtain ⟨po, f, hf⟩ := opAns_form (ofOpR tx)
          exact ⟨po, f, hf, Or.inl ⟨by rw [h2]; exact her, hnw⟩⟩
        · exact ⟨_, _, hop, Or.inr (Or.inl ⟨h2, her, hnw⟩)⟩
        · exact ⟨_, _, hop, Or.inr (Or.inr (Or.inl ⟨h2, rfl, hpo, hnw⟩))⟩
        · exact ⟨_, _, hop, Or.inr (Or.inr (Or.inr ⟨h2, rfl, hpo, hnw, h3⟩))⟩
      obtain ⟨⟨pk, pg, pa, pd, pi, pp⟩, f, hop, hcs3⟩ := hcs2
      have HO2 : Hid _ := HOf.out w4
      rw [hop] at HO2
      unfold Oo.val at HO2
      have HC3 : Hid _ := hcs3
      simp only at HO2 HC3
      clear hop hcs3 HOf HCs HTx
      go_wp2_with fail
      refine Calls.mono HO2.out ?_
      rintro e w5 ⟨rfl, b5⟩
      obtain ⟨W6, hW6, X6, B6⟩ : ∃ W6, (w5.alloc (.cells #[.int .i64 pk, .int .i64 pg, .int .i64 pa, .int .i64 pd, .int .i64 pi, .float .f64 pp] 25)) = W6 ∧ Blk W6 w5.heap.size #[.int .i64 pk, .int .i64 pg, .int .i64 pa, .int .i64 pd, .int .i64 pi, .float .f64 pp] 25 ∧ Below w5.heap.size w5 W6 := ⟨_, rfl, blk_new _ _ _ _ rfl, by go_grown⟩
      have c0 : W6.cell? ⟨w5.heap.size, 0, none⟩ = some (.int .i64 pk) := X6.cell rfl
      have HB6 : Hid (Below w3.heap.size w3 W6) := (HB4.out.trans (b5.mono HB4.out.size)).trans (B6.mono (Nat.le_trans HB4.out.size b5.size))
      have HF6 : Hid (∃ X', Hm W6 w.heap.size X' (runsR h32 (ls.take (k + 1))) ∧ X'.p = X.p ∧ Below w.heap.size w W6) := by
        obtain ⟨X', m, p, b⟩ := HF.out
        exact ⟨X', m.below HB6.out, p, b.trans (HB6.out.mono b.size)⟩
      have HNow : Hid (∀ wx, (∃ X', Hm wx w.heap.size X' (runsR h32 (ls.take (k + 1))) ∧ X'.p = X.p ∧ Below w.heap.size w wx) → Calls Tryz.prog 17 #[.pointer (some ⟨X.p, 0, none⟩)] wx fun e w' => e = .returned (.int .i64 DH.now) ∧ w' = wx) := by
        rintro wx ⟨X', m, p, b⟩
        have := now_hs wx m.ha
        rw [p, HRN.out] at this
        exact this
      clear B6 b5 X6 HB6 HB4 HF HO2
      rcases HC3.out with ⟨hne, hnw⟩ | ⟨rfl, hne, hnw⟩ | ⟨rfl, rfl, hne, hnw⟩ | ⟨rfl, rfl, rfl, hnw, hd1⟩
      · have hd : (D2 == 0) = false := by simpa using hne
        rw [hnw] at HNow HRN
        clear HC3 hne
        go_wp2_with fail
        refine Calls.mono (HNow.out _ HF6.out) ?_
        rintro e w7 ⟨rfl, rfl⟩
        go_wp2
        exact ⟨⟨k + 1, by omega, by omega, by norm_cast, by rw [HRN.out], HF6⟩, by simp [intOf]; omega⟩
      · have hd : (f == 0) = false := by simpa using hne
        rw [hnw] at HNow HRN
        clear HC3 hne
        go_wp2_with fail
        refine Calls.mono (HNow.out _ HF6.out) ?_
        rintro e w7 ⟨rfl, rfl⟩
        go_wp2
        exact ⟨⟨k + 1, by omega, by omega, by norm_cast, by rw [HRN.out], HF6⟩, by simp [intOf]; omega⟩
      · have hd : (pk == 1) = false := by simpa using hne
        rw [hnw] at HNow HRN
        clear HC3 hne
        go_wp2_with fail
        refine Calls.mono (HNow.out _ HF6.out) ?_
        rintro e w7 ⟨rfl, rfl⟩
        go_wp2
        exact ⟨⟨k + 1, by omega, by omega, by norm_cast, by rw [HRN.out], HF6⟩, by simp [intOf]; omega⟩
      · obtain ⟨t, rfl⟩ := Int.eq_ofNat_of_zero_le hnb.1
        rw [Int.toNat_natCast] at hd1
        rw [hnw] at HNow HRN
        have HNum : Hid _ := fun wx => number_ref (t + 1) wx (by omega)
        have hle := enc_le (t + 1)
        have hcat : ¬ 9223372036854775807 < 1 + (enc (t + 1)).length := by omega
        simp only [Int.natCast_add, Int.natCast_one] at HNum
        subst hd1
        clear HC3
        go_wp2_with fail
        refine Calls.mono (HNum.out _) ?_
        rintro e w7 ⟨rfl, b7⟩
        have HF7 : Hid (∃ X', Hm w7 w.heap.size X' (runsR h32 (ls.take (k + 1))) ∧ X'.p = X.p ∧ Below w.heap.size w w7) := by
          obtain ⟨X', m, p, b⟩ := HF6.out
          exact ⟨X', m.below b7, p, b.trans (b7.mono b.size)⟩
        clear b7 HNum
        go_wp2_with fail
        refine Calls.mono (HNow.out _ HF7.out) ?_
        rintro e w8 ⟨rfl, rfl⟩
        go_wp2
        exact ⟨⟨k + 1, by omega, by omega, by norm_cast, by rw [HRN.out], HF7⟩, by simp [intOf]; omega⟩
    · by_cases h1 : k < n
      · have hd1 : decide ((k : Int) < n) = true := by simp only [decide_eq_true_eq]; omega
        have hd2 : decide ((k : Int) < 60) = false := by simp only [decide_eq_false_iff_not]; omega
        go_wp2_with fail
        refine (HA.out _).mono ?_
        rintro e w6 ⟨rfl, b6⟩
        go_wp2
        go_ret
        obtain ⟨X', m, p, b⟩ := HR.out
        exact ⟨rfl, b.trans (b6.mono b.size)⟩
      · have hd1 : decide ((k : Int) < n) = false := by simp only [decide_eq_false_iff_not]; omega
        go_wp2_with fail
        refine (HA.out _).mono ?_
        rintro e w6 ⟨rfl, b6⟩
        go_wp2
        go_ret
        obtain ⟨X', m, p, b⟩ := HR.out
        exact ⟨rfl, b.trans (b6.mono b.size)⟩
end Go.Proofs.YtgofjheoebabeaaGreat
