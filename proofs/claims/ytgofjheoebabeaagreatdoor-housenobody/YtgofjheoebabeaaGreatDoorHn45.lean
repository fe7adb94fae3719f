/- The house: the time goes on. -/
import Derived.Test.YtgofjheoebabeaaGreatDoorHn43
namespace Go.Proofs.YtgofjheoebabeaaGreatDoor
open Go.RowKit
set_option linter.unusedSimpArgs false
set_option linter.unusedVariables false
variable {base : Nat}

def clr1 (H : Hs) (i : Nat) : Hs := { H with l := clrL H.g i H.l (H.book i), ms := H.ms.set i (H.book i).clr }
/-- A good's turn: its market is cleared, then the round of its auction ends, if there is one. -/
def tick1 (E : Hs → Nat → Hs) (H : Hs) (i : Nat) : Hs :=
  match H.ss[i]? with
  | some (some _) => E (clr1 H i) i
  | _ => clr1 H i
def tickN (E : Hs → Nat → Hs) (H : Hs) : Nat → Hs
  | 0 => H
  | k + 1 => tick1 E (tickN E H k) k
def tickR (E : Hs → Nat → Hs) (H : Hs) : Int × Hs := if H.now = 9007199254740992 then (2, H) else (0, tickN E { H with now := H.now + 1 } H.g)
theorem clr1_g (H : Hs) (i : Nat) : (clr1 H i).g = H.g := rfl
theorem tickN_succ (E : Hs → Nat → Hs) (H : Hs) (k : Nat) : tickN E H (k + 1) = tick1 E (tickN E H k) k := rfl
theorem tick1_g {E : Hs → Nat → Hs} (hE : ∀ H i, (E H i).g = H.g) (H : Hs) (i : Nat) : (tick1 E H i).g = H.g := by
  unfold tick1
  split
  · rw [hE, clr1_g]
  · rw [clr1_g]
theorem tickN_g {E : Hs → Nat → Hs} (hE : ∀ H i, (E H i).g = H.g) (H : Hs) : ∀ k, (tickN E H k).g = H.g
  | 0 => rfl
  | k + 1 => by rw [tickN_succ, tick1_g hE, tickN_g hE H k]
theorem Hm.setNow {w : World} {X : Ad} {H : Hs} (h : Hm w base X H) (n : Int) (hn : 0 ≤ n ∧ n ≤ 9007199254740992) : Hm (w.setCell ⟨X.p, 4, none⟩ (.int .i64 n)) base X { H with now := n } ∧ Hst w (w.setCell ⟨X.p, 4, none⟩ (.int .i64 n)) X X := by
  have c : Chg (fun k => k = X.p) w (w.setCell ⟨X.p, 4, none⟩ (.int .i64 n)) := ⟨rfl, rfl, rfl, by simp [World.setCell], fun k hk hn => Below.heap_setCell _ _ _ _ (fun e => hn e)⟩
  have hp := h.ha.blk
  refine ⟨⟨⟨?_, h.ha.lg.chg c (fun e => blk_unl h.ha.lg.blk hp (by decide) e) (fun e => blk_unl h.ha.lg.row hp (by decide) e)⟩, h.mks.chg c (Elsw.one hp (by decide)), h.sls.chg c (Elsw.one hp (by decide)), h.b0, hn, h.ds⟩,
    ⟨c.os, c.tape, c.output, c.size, fun k hk hn => c.block k hk (fun e => hn (Or.inl e))⟩, fun k hk => Or.inl hk⟩
  exact hp.set 4 _
set_option maxRecDepth 100000 in
set_option maxHeartbeats 4000000 in
theorem tick_hs (E : Hs → Nat → Hs) (P : Hs → Prop) (hP1 : ∀ H n, P H → P { H with now := n }) (hP2 : ∀ H i, P H → P (clr1 H i)) (hP3 : ∀ H i, P H → P (E H i)) (hE : ∀ H i, (E H i).g = H.g)
    (HE : ∀ (wx : World) (X : Ad) (H : Hs) (i : Nat) (a : Clo.Au × Int), Hm wx base X H → base ≤ wx.heap.size → i < H.g → P H → H.ss[i]? = some (some a) → Calls Tryz.prog 78 #[.pointer (some ⟨X.p, 0, none⟩), .int .i64 i] wx fun e w' => e = .returned (.tuple #[]) ∧ ∃ X', Hm w' base X' (E H i) ∧ Hst wx w' X X' ∧ X'.p = X.p)
    (w : World) {X : Ad} {H : Hs} (h : Hm w base X H) (hB : base ≤ w.heap.size) (hp : P H) (who : Int) (o : Oo) :
    Calls Tryz.prog 56 #[.pointer (some ⟨X.p, 0, none⟩), .int .i64 who, o.val] w (Deed base X w (tickR E H)) := by
  obtain ⟨W0, hW0, B0⟩ : ∃ W0, (w.alloc (.cells #[.int .i64 o.k, .int .i64 o.g, .int .i64 o.a, .int .i64 o.d, .int .i64 o.i, .float .f64 o.pr] 70)) = W0 ∧ Below w.heap.size w W0 := ⟨_, rfl, by go_grown⟩
  have h0 := h.below B0
  have c4 : W0.cell? ⟨X.p, 4, none⟩ = some (.int .i64 H.now) := h0.ha.blk.cell rfl
  have hg4 := h.ha.lg.inv.g4
  have hn0 := h.n0
  have HH0 : Hid _ := h0
  have HB0 : Hid _ := B0
  have HEE : Hid _ := HE
  have fr : W0.frozen? ⟨X.p, 4, none⟩ = false := h0.ha.blk.frozen
  obtain ⟨R, hR⟩ : ∃ R, tickR E H = R := ⟨_, rfl⟩
  rw [hR]
  unfold tickR at hR
  unfold Oo.val
  clear h h0 HE B0
  by_cases hm : H.now = 9007199254740992
  · rw [if_pos hm] at hR
    subst hR
    have hd : (H.now == 9007199254740992) = true := by simpa using hm
    clear hm
    go_enter Tryz.func56, Tryz.ntmps56
    go_wp2
    go_ret
    exact ⟨rfl, X, HH0.out, Hst.of_below HB0.out, rfl⟩
  · rw [if_neg hm] at hR
    have hd : (H.now == 9007199254740992) = false := by simpa using hm
    have hlt : H.now + 1 ≤ 9007199254740992 := by omega
    have HS := HH0.out.setNow (H.now + 1) ⟨by omega, hlt⟩
    obtain ⟨W1, hW1, M1, T1⟩ : ∃ W1, W0.setCell ⟨X.p, 4, none⟩ (.int .i64 (H.now + 1)) = W1 ∧ Hm W1 base X { H with now := H.now + 1 } ∧ Hst W0 W1 X X := ⟨_, rfl, HS.1, HS.2⟩
    have c2 : W1.cell? ⟨X.p, 2, none⟩ = some (.slice (some ⟨X.qm, 0, none⟩) H.g X.cm) := M1.ha.blk.cell rfl
    have HR : Hid _ := hR
    have HI : Hid (∃ X', Hm W1 base X' (tickN E { H with now := H.now + 1 } 0) ∧ Hst w W1 X X' ∧ X'.p = X.p ∧ P (tickN E { H with now := H.now + 1 } 0)) := ⟨X, M1, (Hst.of_below HB0.out).trans T1, rfl, hP1 _ _ hp⟩
    obtain ⟨G, hG⟩ : ∃ G : Hs, ({ H with now := H.now + 1 } : Hs) = G := ⟨_, rfl⟩
    have hGg : G.g = H.g := by rw [← hG]
    rw [hG] at HI HR
    have HGg : Hid _ := hGg
    clear M1 T1 HS hm hR hG hGg hp
    go_enter Tryz.func56, Tryz.ntmps56
    go_wp2_with fail
    go_loopw [25] (fun iv wr => ∃ k : Nat, k ≤ H.g ∧ iv = .int .i64 k ∧ Hid (∃ X', Hm wr base X' (tickN E G k) ∧ Hst w wr X X' ∧ X'.p = X.p ∧ P (tickN E G k))) (fun iv _ => H.g - (intOf iv).toNat)
    case atStart => exact ⟨0, Nat.zero_le _, rfl, HI⟩
    case round =>
      clear HI c2 hW1 fr c4
      obtain ⟨k, hk, rfl, HRl⟩ := hrel
      by_cases hkl : k < H.g
      · have hd1 : decide ((k : Int) < (H.g : Int)) = true := by simp only [decide_eq_true_eq]; omega
        have hkl' : (k : Int) < (H.g : Int) := by omega
        obtain ⟨⟨xp, xpl, xbl, xqm, xcm, xqs, xbs, xsl⟩, m1, t1, p1, pp1⟩ := HRl.out
        simp only at p1
        subst xp
        have hg1 : (tickN E G k).g = H.g := (tickN_g hE G k).trans HGg.out
        have HT : Hid (tickN E G (k + 1) = tick1 E (tickN E G k) k) := rfl
        generalize tickN E G k = K at *
        have hml : k < K.ms.length := by rw [m1.mks.nm]; omega
        obtain ⟨B, hBk⟩ : ∃ B, K.ms[k]? = some B := ⟨K.ms[k], by simp [hml]⟩
        obtain ⟨b, hb⟩ := get_both hBk (m1.mks.nb.trans m1.mks.nm.symm)
        have hbook : K.book k = B := by unfold Hs.book; rw [hBk]; rfl
        have hzr := t1.chg.size
        have HCl : Hid _ := clear_hs wr m1 (Nat.le_trans hB hzr) k (by omega) hBk hb
        have hc1 : clr1 K k = { K with l := clrL K.g k K.l B, ms := K.ms.set k B.clr } := by unfold clr1; rw [hbook]
        have hsl : k < K.ss.length := by rw [m1.sls.nn]; omega
        obtain ⟨sk, hsk⟩ : ∃ sk, K.ss[k]? = some sk := ⟨K.ss[k], by simp [hsl]⟩
        have HX : Hid (Hst w wr X (⟨X.p, xpl, xbl, xqm, xcm, xqs, xbs, xsl⟩ : Ad) ∧ P K ∧ K.g = H.g ∧ K.ss[k]? = some sk ∧ clr1 K k = { K with l := clrL K.g k K.l B, ms := K.ms.set k B.clr }) := ⟨t1, pp1, hg1, hsk, hc1⟩
        clear m1 t1 pp1 hg1 hsk hc1 hml hBk hb hbook hsl HRl
        go_wp2_with fail
        refine Calls.mono HCl.out ?_
        rintro e w2 ⟨rfl, v', m2, t2⟩
        obtain ⟨t1, pp1, hg1, hsk, hc1⟩ := HX.out
        have m2' : Hm w2 base (⟨X.p, xpl, xbl, xqm, xcm, xqs, xbs.set k (b.1, v'), xsl⟩ : Ad) (clr1 K k) := by rw [hc1]; exact m2
        have t02 := t1.trans t2
        have hz2 := t02.chg.size
        have c3 : w2.cell? ⟨X.p, 3, none⟩ = some (.slice (some ⟨xqs, 0, none⟩) H.g H.g) := by
          have h3 : w2.cell? ⟨X.p, 3, none⟩ = some (.slice (some ⟨xqs, 0, none⟩) K.g K.g) := m2'.ha.blk.cell rfl
          rw [hg1] at h3
          exact h3
        have hgg : (clr1 K k).g = H.g := hg1
        have hss : (clr1 K k).ss[k]? = some sk := hsk
        obtain ⟨ak, hak⟩ := get_both hss (m2'.sls.ns.trans m2'.sls.nn.symm)
        have cs : w2.cell? ⟨xqs, k, none⟩ = some (ptrS ak) := m2'.sls.row.cell (by simp; exact ⟨ak, hak, rfl⟩)
        have hnon : (ak = none ↔ sk = none) := by
          have := m2'.sls.non k
          simp only at hak
          rw [hak, hss] at this
          simpa using this
        have HM2 : Hid _ := m2'
        have HT2 : Hid _ := t02
        cases sk with
        | none =>
          obtain rfl := hnon.2 rfl
          have HF : Hid (∃ X', Hm w2 base X' (tickN E G (k + 1)) ∧ Hst w w2 X X' ∧ X'.p = X.p ∧ P (tickN E G (k + 1))) := by
            show _
            have e1 : tickN E G (k + 1) = clr1 K k := by
              rw [HT.out]; unfold tick1; rw [hsk]
            rw [e1]
            exact ⟨_, m2', t02, rfl, hP2 _ _ pp1⟩
          unfold ptrS at cs
          simp only [Option.map_none] at cs
          clear HCl hss hsk hc1 m2 m2' t2 t02 t1 hak hnon HX HM2 HT2 HT pp1
          go_wp2
          exact ⟨⟨k + 1, by omega, by norm_cast, HF⟩, by simp [intOf]; omega⟩
        | some a =>
          cases ak with
          | none => have := hnon.1 rfl; cases this
          | some ad =>
            have HEr : Hid _ := HEE.out w2 (⟨X.p, xpl, xbl, xqm, xcm, xqs, xbs.set k (b.1, v'), xsl⟩ : Ad) (clr1 K k) k a m2' (Nat.le_trans hB hz2) (by omega) (hP2 _ _ pp1) hss
            have HTT : Hid (tickN E G (k + 1) = E (clr1 K k) k ∧ P (E (clr1 K k) k)) := by
              refine ⟨?_, hP3 _ _ (hP2 _ _ pp1)⟩
              rw [HT.out]; unfold tick1; rw [hsk]
            unfold ptrS at cs
            simp only [Option.map_some] at cs
            clear HCl hss hsk hc1 m2 m2' t2 t02 t1 hak hnon HX HM2 HT pp1
            go_wp2_with fail
            refine Calls.mono HEr.out ?_
            rintro e w3 ⟨rfl, X3, m3, t3, p3⟩
            have HF : Hid (∃ X', Hm w3 base X' (tickN E G (k + 1)) ∧ Hst w w3 X X' ∧ X'.p = X.p ∧ P (tickN E G (k + 1))) := by
              show _
              rw [HTT.out.1]
              exact ⟨X3, m3, HT2.out.trans t3, p3, HTT.out.2⟩
            clear m3 t3 p3 HEr cs c3
            go_wp2
            exact ⟨⟨k + 1, by omega, by norm_cast, HF⟩, by simp [intOf]; omega⟩
      · have hd1 : decide ((k : Int) < (H.g : Int)) = false := by simp only [decide_eq_false_iff_not]; omega
        obtain rfl : k = H.g := by omega
        have hr := HR.out
        subst hr
        go_wp2
        go_ret
        obtain ⟨X1, m1, t1, p1, pp1⟩ := HRl.out
        exact ⟨rfl, X1, m1, t1, p1⟩
end Go.Proofs.YtgofjheoebabeaaGreatDoor
