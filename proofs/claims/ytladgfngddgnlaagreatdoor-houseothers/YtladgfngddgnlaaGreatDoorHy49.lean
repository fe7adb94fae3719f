/- The house's records. -/
import Derived.Test.YtladgfngddgnlaaGreatDoorHy48
import Derived.Deep.RegionHeld
import Derived.Deep.DeepCutAuto
import Derived.Deep.CutBlock
import Derived.Test.YtladgfngddgnlaaGreatDoorRows
import Derived.ProofKit
import Derived.LaidMore
import Derived.OpenShut
import Derived.Stop.Joined
import Derived.Lib.LaidTab
import Derived.Lay
namespace Go.Proofs.YtladgfngddgnlaaGreatDoor
open Go.RowKit
set_option linter.unusedSimpArgs false
set_option linter.unusedVariables false
variable {base : Nat}

theorem cell_two_newH (w : World) (x y : Value) (t : TypeId) : ∀ j u, [x, y][j]? = some u → (w.alloc (.cells #[x, y] t)).cell? ((⟨w.heap.size, 0, none⟩ : Addr).add j) = some u := by
  intro j u hu
  have X := blk_new w w.heap.size #[x, y] t rfl
  have : j = 0 ∨ j = 1 := by
    have := (List.getElem?_eq_some_iff.1 hu).1
    simp at this; omega
  rcases this with rfl | rfl
  · have e : u = x := by simpa using hu.symm
    subst e; exact X.cell rfl
  · have e : u = y := by simpa using hu.symm
    subst e; exact X.cell rfl
set_option maxRecDepth 100000 in
set_option maxHeartbeats 4000000 in
theorem records_hs (w : World) {X : Ad} {H : Hs} (h : Hm w base X H) : Calls Tryz.prog 7 #[.pointer (some ⟨X.p, 0, none⟩)] w fun e w' => ∃ v, e = .returned v ∧ w'.ownsRow w.heap.size 38 2 v (hrecs H).length (rcCells (hrecs H)) ∧ Below w.heap.size w w' := by
  obtain ⟨i0, hi, hz0, hz1, hz2⟩ := info_parts Led.infoRcL
  have hma := made_hs w h.ha
  have hlen := h.ha.lg.inv.len
  have hg4 := h.ha.lg.inv.g4
  have c1 : w.cell? ⟨X.p, 1, none⟩ = some (.pointer (some ⟨X.pl, 0, none⟩)) := h.ha.blk.cell rfl
  have HLR : Hid _ := Led.records_calls w h.ha.lg
  have HH : Hid (Hm w base X H) := h
  clear h
  go_enter Tryz.func7, Tryz.ntmps7
  go_wp2_with fail
  refine hma.mono ?_
  rintro e w1 ⟨rfl, rfl⟩
  go_wp2_with fail
  refine Calls.mono HLR.out ?_
  rintro e w2 ⟨v2, rfl, own2, b2⟩
  have c2 : w2.cell? ⟨X.p, 2, none⟩ = some (.slice (some ⟨X.qm, 0, none⟩) H.g X.cm) := (HH.out.below b2).ha.blk.cell rfl
  have hown0 : w2.ownsRow w1.heap.size 38 2 v2 (H.l.length + 0) (rcCells (hrec1 H 0)) := by
    have e : hrec1 H 0 = Led.recs H.g H.l := by unfold hrec1 bkRecs; simp
    rw [e]; exact own2
  have HO0 : Hid (w2.ownsRow w1.heap.size 38 2 v2 (H.l.length + 0) (rcCells (hrec1 H 0))) := hown0
  have HB2 : Hid (Below w1.heap.size w1 w2) := b2
  clear own2 hown0 b2 HLR hma
  go_wp2
  go_loopw [3, 25] (fun v i wr => ∃ k : Nat, k ≤ H.g ∧ i = .int .i64 k ∧ Hid (wr.ownsRow w1.heap.size 38 2 v (H.l.length + k) (rcCells (hrec1 H k))) ∧ Hid (Below w1.heap.size w1 wr)) (fun _ i _ => H.g - (intOf i).toNat)
  case atStart => exact ⟨0, Nat.zero_le _, rfl, HO0, HB2⟩
  case round =>
    clear HO0 HB2
    obtain ⟨k, hk, rfl, HO, HB⟩ := hrel
    by_cases hlt : k < H.g
    · have hd : decide ((k : Int) < H.g) = true := by simp only [decide_eq_true_eq]; omega
      have Hr := HH.out.below HB.out
      have hml : k < H.ms.length := by rw [Hr.mks.nm]; exact hlt
      obtain ⟨B, hBk⟩ : ∃ B, H.ms[k]? = some B := ⟨H.ms[k], by simp [hml]⟩
      obtain ⟨b, hb⟩ := get_both hBk (Hr.mks.nb.trans Hr.mks.nm.symm)
      have hkb := Hr.mks.bk k b B hb hBk
      obtain ⟨cs, hr, hr2⟩ := Hr.mks.row
      have cq : wr.cell? ⟨X.qm, k, none⟩ = some (.pointer (some ⟨b.1, 0, none⟩)) := hr.cell (hr2 k b hb)
      have HBy : Hid _ := Cal.bytes_calls wr hkb
      have HKe : Hid _ := fun wx => keyOfBook_hs k wx (by omega)
      have hrc : hrec1 H (k + 1) = hrec1 H k ++ [⟨bkKey k, Cal.boB B⟩] := by
        rw [hrec1_succ]
        unfold bkRec
        rw [hBk]; rfl
      have HRC : Hid _ := hrc
      generalize bkKey k = kB at *
      generalize Cal.boB B = vB at *
      clear Hr hkb hr hr2 hrc hBk hb hml
      go_wp2_with fail
      refine (HKe.out _).mono ?_
      rintro e wk ⟨rfl, rfl⟩
      go_wp2_with fail
      refine Calls.mono HBy.out ?_
      rintro e w3 ⟨rfl, b3⟩
      have z3 := b3.size
      have zr := HB.out.size
      have HB3 : Hid (Below w1.heap.size w1 w3) := HB.out.trans (b3.mono zr)
      have HO3 : Hid (w3.ownsRow w1.heap.size 38 2 u3 (H.l.length + k) (rcCells (hrec1 H k))) := own_belowL HO.out b3
      have zw := HB3.out.size
      clear b3 cq
      go_wp2_with (at_builtin; refine wpList_append_own _ rfl (.tmp 30) (.tmp 36) 30 rfl w1.heap.size 38 i0 (.agg #[.string ⟨#[]⟩, .string ⟨#[]⟩]) 2 32 Tryz.underlying30 hi hz0 hz1 hz2 rfl (by decide) _ _ _ rfl (World.ownsRow.alloc HO3.out _) ⟨w3.heap.size, 0, none⟩ 1 1 [.string kB, .string vB] rfl rfl ?c1 ?c2 ?c3 ?c4 ?c5 ?_)
      case c1 => exact cell_two_newH _ _ _ _
      case c2 => intro u hu; simp at hu; rcases hu with rfl | rfl <;> rfl
      case c3 => unfold maxLen; omega
      case c4 => omega
      case c5 => simp; omega
      intro v' w4 ho' hg' _
      have HO4 : Hid (w4.ownsRow w1.heap.size 38 2 v' (H.l.length + (k + 1)) (rcCells (hrec1 H (k + 1)))) := by
        show World.ownsRow _ _ _ _ _ _ _
        rw [HRC.out, rcCells_snoc]; exact ho'
      have HB4 : Hid (Below w1.heap.size w1 w4) := (HB3.out.alloc (by omega) _).grown hg' (by simp; omega) (fun q hq => (World.ownsRow.lt HO3.out q hq).1)
      clear ho' hg'
      go_wp2
      exact ⟨⟨k + 1, by omega, by norm_cast, HO4, HB4⟩, by simp [intOf]; omega⟩
    · have hd : decide ((k : Int) < H.g) = false := by simp only [decide_eq_false_iff_not]; omega
      obtain rfl : k = H.g := by omega
      have c3 : wr.cell? ⟨X.p, 3, none⟩ = some (.slice (some ⟨X.qs, 0, none⟩) H.g H.g) := (HH.out.below HB.out).ha.blk.cell rfl
      have HO2 : Hid (wr.ownsRow w1.heap.size 38 2 u3 (hrec2 H 0).length (rcCells (hrec2 H 0))) := by
        have e : hrec2 H 0 = hrec1 H H.g := by unfold hrec2 slRecs; simp
        rw [e, hrec1_len]; exact HO
      have HB2 : Hid (Below w1.heap.size w1 wr) := HB.out
      clear HO HB
      go_wp2
      go_loopw [3, 44] (fun v i wr => ∃ k : Nat, k ≤ H.g ∧ i = .int .i64 k ∧ Hid (wr.ownsRow w1.heap.size 38 2 v (hrec2 H k).length (rcCells (hrec2 H k))) ∧ Hid (Below w1.heap.size w1 wr)) (fun _ i _ => H.g - (intOf i).toNat)
      case atStart => exact ⟨0, Nat.zero_le _, rfl, HO2, HB2⟩
      case round =>
        clear HO2 HB2
        obtain ⟨k, hk, rfl, HO, HB⟩ := hrel
        have hl2 := hrec2_len H k
        by_cases hlt : k < H.g
        · have hd : decide ((k : Int) < H.g) = true := by simp only [decide_eq_true_eq]; omega
          have Hr := HH.out.below HB.out
          obtain ⟨sa, hsa⟩ : ∃ sa, X.sl[k]? = some sa := ⟨X.sl[k]'(by rw [Hr.sls.ns]; exact hlt), by simp⟩
          have cs : wr.cell? ⟨X.qs, k, none⟩ = some (ptrS sa) := Hr.sls.row.cell (by rw [List.getElem?_toArray, List.getElem?_map, hsa]; rfl)
          cases sa with
          | none =>
            have hn := (Hr.sls.non k).1 hsa
            have hrc := hrec2_none hn
            unfold ptrS at cs
            simp only [Option.map_none] at cs
            have HRC : Hid _ := hrc
            clear Hr hsa hn hrc
            go_wp2
            refine ⟨⟨k + 1, by omega, by norm_cast, ?_, HB⟩, by simp [intOf]; omega⟩
            rw [HRC.out]; exact HO
          | some a =>
            obtain ⟨y, hy⟩ := get_both hsa (Hr.sls.nn.trans Hr.sls.ns.symm)
            cases y with
            | none => have := (Hr.sls.non k).2 hy; rw [hsa] at this; cases this
            | some x =>
            obtain ⟨m1, m2, m3⟩ := Hr.sls.sal k a x hsa hy
            have hds := (Hr.ds k x hy)
            have hsz := auB_size m2.inv.len.2
            have s0 : wr.cell? ⟨a.1, 0, none⟩ = some (.pointer (some ⟨a.2.1, 0, none⟩)) := m1.cell rfl
            have s1 : wr.cell? ⟨a.1, 1, none⟩ = some (.int .i64 x.2) := m1.cell rfl
            have hrc := hrec2_some hy
            have HRC : Hid _ := hrc
            unfold ptrS at cs
            simp only [Option.map_some] at cs
            obtain ⟨A, sl⟩ := x
            simp only at s1 hds HRC hsz m2
            obtain ⟨sn, rfl⟩ := Int.eq_ofNat_of_zero_le hds.2.1
            have HPu : Hid _ := fun wx => putInt_ok sn wx (by have := hds.2.2; omega)
            have HKe : Hid _ := fun wx => keyOfSale_hs k wx (by omega)
            have HBy : Hid (∀ wx, Below wr.heap.size wr wx → _) := fun wx hx => Clo.bytes_calls wx (m2.below hx)
            have hle := enc_le sn
            have hrc2 : slRec k (A, (sn : Int)) = ⟨slKey k, (⟨(enc sn).toArray⟩ : ByteArray) ++ Clo.auB A⟩ := by unfold slRec slVal; simp
            rw [hrc2] at HRC
            have hss : (⟨(enc sn).toArray⟩ : ByteArray).size ≤ 10 := by show (enc sn).toArray.size ≤ 10; rw [List.size_toArray]; omega
            have hal := m1.lt
            have hal1 : a.1 < w1.heap.size := (HH.out.sls.sal k a _ hsa hy).1.lt
            generalize slKey k = kB at *
            generalize Clo.auB A = aB at *
            generalize (⟨(enc sn).toArray⟩ : ByteArray) = sB at *
            have hcat : ¬ 9223372036854775807 < sB.size + aB.size := by omega
            clear Hr hsa hy m1 m2 m3 hrc hrc2 hds hle
            go_wp2_with fail
            refine (HPu.out _).mono ?_
            rintro e w3 ⟨rfl, b3⟩
            have HB3 : Hid (Below wr.heap.size wr w3) := b3
            have s0' : w3.cell? ⟨a.1, 0, none⟩ = some (.pointer (some ⟨a.2.1, 0, none⟩)) := (b3.cell (p := ⟨a.1, 0, none⟩) hal).trans s0
            have zr := HB.out.size
            have z3 := b3.size
            clear b3 s0 s1 cs
            go_upto_region 14 with fail
            refine wp_region_held_drew (S := (fun wx => wx.cell? ⟨a.1, 0, none⟩ = some (.pointer (some ⟨a.2.1, 0, none⟩)))) (by kernel_rfl) s0' (fun hS => ?_)
            refine tkG (i := 0) (v := u3) rfl hS ?_
            refine tkG (i := 1) (v := .int .i64 k) rfl hS ?_
            refine tkG (i := 3) (v := .string sB) rfl hS ?_
            refine tkG (i := 4) (v := .pointer (some ⟨a.1, 0, none⟩)) rfl hS ?_
            refine tkG (i := 5) (v := .pointer (some ⟨a.1, 0, none⟩)) rfl hS ?_
            refine tkG (i := 6) (v := .pointer (some ⟨a.1, 0, none⟩)) rfl hS ?_
            refine tkG (i := 7) (v := .pointer (some ⟨a.2.1, 0, none⟩)) rfl hS ?_
            refine wpAnyH_ready (rs := [2]) (by kernel_rfl) (by simp) ?_
            refine AllReadyH.cons rfl (fun K hK => ?_) AllReadyH.nil
            go_simp
            refine (HKe.out _).mono ?_
            rintro e wk ⟨rfl, rfl⟩
            refine hK.out _ _ hS (fun hS => ?_)
            clear hK
            refine wpAnyH_ready (rs := [8]) (by kernel_rfl) (by simp) ?_
            refine AllReadyH.cons rfl (fun K hK => ?_) AllReadyH.nil
            go_simp
            refine (HBy.out _ HB3.out.drew).mono ?_
            rintro e w4 ⟨rfl, b4⟩
            refine hK.out _ _ ((b4.cell (p := ⟨a.1, 0, none⟩) (by show a.1 < w3.heap.size; omega)).trans hS) (fun hS => ?_)
            clear hK
            refine tkG (i := 9) (v := .string (sB ++ aB)) rfl hS ?_
            refine tkG (i := 10) (v := .agg #[.string kB, .string (sB ++ aB)]) rfl hS ?_
            have z4 : w3.heap.size ≤ w4.heap.size := b4.size
            have B4 : Below wr.heap.size wr w4 := HB3.out.drew.trans (b4.mono z3)
            have O4 := own_belowL HO.out B4
            refine wpAnyH_ready (rs := [11]) (by kernel_rfl) (by simp) ?_
            refine AllReadyH.cons rfl (fun K hK => ?_) AllReadyH.nil
            go_simp
            refine hK.out _ _ ((((Below.refl w4.heap.size w4).alloc (Nat.le_refl _) _).cell (p := ⟨a.1, 0, none⟩) (show a.1 < w4.heap.size by omega)).trans hS) (fun hS => ?_)
            clear hK
            refine wpAnyH_ready (rs := [12]) (by kernel_rfl) (by simp) ?_
            refine AllReadyH.cons rfl (fun K hK => ?_) AllReadyH.nil
            refine Led.step_ifL rfl ?_
            refine wp_append_own _ (.tmp 59) (.tmp 70) 30 rfl w1.heap.size 38 i0 (.agg #[.string ⟨#[]⟩, .string ⟨#[]⟩]) 2 32 Tryz.underlying30 hi hz0 hz1 hz2 rfl (by decide) u3 (hrec2 H k).length (rcCells (hrec2 H k)) rfl (World.ownsRow.alloc O4 _) ⟨w4.heap.size, 0, none⟩ 1 1 [.string kB, .string (sB ++ aB)] rfl rfl ?_ ?_ ?_ ?_ ?_ ?_
            · exact cell_two_newH _ _ _ _
            · intro u hu
              simp at hu
              rcases hu with rfl | rfl <;> rfl
            · unfold maxLen; omega
            · omega
            · simp; omega
            intro v' w5 hown' hgrow _
            have hob : ∀ q, u3.ownBlock = some q → w1.heap.size ≤ q ∧ q < wr.heap.size := fun q hq => World.ownsRow.lt HO.out q hq
            have HO5 : Hid (w5.ownsRow w1.heap.size 38 2 v' (hrec2 H (k + 1)).length (rcCells (hrec2 H (k + 1)))) := by
              show World.ownsRow _ _ _ _ _ _ _
              rw [HRC.out, rcCells_snoc, List.length_append]; exact hown'
            have HB5 : Hid (Below w1.heap.size w1 w5) := ((HB.out.trans (B4.mono zr)).alloc (by omega) _).grown hgrow (by simp; omega) (fun q hq => (hob q hq).1)
            refine hK.out _ _ ?_ (fun hS => ?_)
            · rw [World.cell?_of_block (hgrow.block a.1 (by simp; omega) (fun e => by have := hob _ e.symm; omega))]
              exact hS
            clear hK
            refine tkG (i := 13) (v := v') rfl hS ?_
            refine wpAnyH_done (by kernel_rfl) ?_ _
            clear hown' hgrow hS
            go_wp2
            exact ⟨⟨k + 1, by omega, by norm_cast, HO5, HB5⟩, by simp [intOf]; omega⟩
        · have hd : decide ((k : Int) < H.g) = false := by simp only [decide_eq_false_iff_not]; omega
          obtain rfl : k = H.g := by omega
          have c4 : wr.cell? ⟨X.p, 4, none⟩ = some (.int .i64 H.now) := (HH.out.below HB.out).ha.blk.cell rfl
          have hn0 := HH.out.n0
          obtain ⟨nw, hnw⟩ := Int.eq_ofNat_of_zero_le hn0.1
          rw [hnw] at c4
          have HPu : Hid _ := fun wx => putInt_ok nw wx (by omega)
          have hrs : hrecs H = hrec2 H H.g ++ [⟨⟨#[110, 111, 119]⟩, ⟨(enc nw).toArray⟩⟩] := by unfold hrecs nowRec; rw [hnw]; rfl
          have HRS : Hid _ := hrs
          generalize (⟨(enc nw).toArray⟩ : ByteArray) = nB at *
          clear hrs hnw hn0
          go_wp2_with fail
          refine (HPu.out _).mono ?_
          rintro e w3 ⟨rfl, b3⟩
          have z3 := b3.size
          have zr := HB.out.size
          have HB3 : Hid (Below w1.heap.size w1 w3) := HB.out.trans (b3.mono zr)
          have HO3 : Hid (w3.ownsRow w1.heap.size 38 2 u3 (hrec2 H H.g).length (rcCells (hrec2 H H.g))) := own_belowL HO.out b3
          clear b3 c4
          go_wp2_with (at_builtin; refine wpList_append_own _ rfl (.tmp 81) (.tmp 84) 30 rfl w1.heap.size 38 i0 (.agg #[.string ⟨#[]⟩, .string ⟨#[]⟩]) 2 32 Tryz.underlying30 hi hz0 hz1 hz2 rfl (by decide) _ _ _ rfl (World.ownsRow.alloc HO3.out _) ⟨w3.heap.size, 0, none⟩ 1 1 [.string ⟨#[110, 111, 119]⟩, .string nB] rfl rfl ?c1 ?c2 ?c3 ?c4 ?c5 ?_)
          case c1 => exact cell_two_newH _ _ _ _
          case c2 => intro u hu; simp at hu; rcases hu with rfl | rfl <;> rfl
          case c3 => unfold maxLen; omega
          case c4 => omega
          case c5 => simp; omega
          intro v' w4 ho' hg' _
          have HO4 : Hid (w4.ownsRow w1.heap.size 38 2 v' (hrecs H).length (rcCells (hrecs H))) := by
            show World.ownsRow _ _ _ _ _ _ _
            rw [HRS.out, rcCells_snoc, List.length_append]; exact ho'
          have HB4 : Hid (Below w1.heap.size w1 w4) := (HB3.out.alloc (by omega) _).grown hg' (by simp; omega) (fun q hq => (World.ownsRow.lt HO3.out q hq).1)
          clear ho' hg'
          go_wp2
          go_ret
          exact ⟨_, rfl, HO4.out, HB4.out⟩
end Go.Proofs.YtladgfngddgnlaaGreatDoor

namespace Go.Proofs.YtladgfngddgnlaaGreatDoor
open Go.RowKit
set_option linter.unusedSimpArgs false
set_option linter.unusedVariables false
variable {base : Nat}

/-- All records but the accounts'. -/
def restR (H : Hs) : List Rc := bkRecs H.ms H.g ++ (slRecs H.ss H.g ++ [nowRec H.now])
theorem hrecs_parts (H : Hs) : hrecs H = Led.recs H.g H.l ++ restR H := by
  unfold hrecs hrec2 hrec1 restR
  simp only [List.append_assoc]
theorem hrecs_at {H : Hs} {i : Nat} (h : i < H.l.length) : (hrecs H)[i]? = some (Led.recOf H.g i (Led.kAt H.l i)) := by
  have hl : i < (Led.recs H.g H.l).length := by rw [Led.recs_len]; exact h
  rw [hrecs_parts, List.getElem?_append_left hl, List.getElem?_eq_getElem hl, Led.recs_at]
/-- Behind a mark the others' records are as they were, and all keys. -/
theorem hrecs_mark (H : Hs) (i : Nat) (s : Int) (t : ByteArray) :
    (hrecs { H with l := Led.markL H.l i s t }).length = (hrecs H).length ∧ ∀ j m, (hrecs H)[j]? = some m → ∃ m', (hrecs { H with l := Led.markL H.l i s t })[j]? = some m' ∧ m'.key = m.key ∧ (j ≠ i → m' = m) := by
  have hll : (Led.markL H.l i s t).length = H.l.length := Led.markL_len _ _ _ _
  have hr : restR { H with l := Led.markL H.l i s t } = restR H := rfl
  refine ⟨?_, fun j m hj => ?_⟩
  · rw [hrecs_parts, hrecs_parts, List.length_append, List.length_append, Led.recs_len, Led.recs_len, hr, hll]
  · by_cases hlt : j < H.l.length
    · rw [hrecs_at hlt] at hj
      obtain rfl := Option.some.inj hj
      refine ⟨_, hrecs_at (H := { H with l := Led.markL H.l i s t }) (by show j < (Led.markL H.l i s t).length; omega), rfl, fun hne => ?_⟩
      show Led.recOf H.g j (Led.kAt (Led.markL H.l i s t) j) = _
      rw [Led.markL_other hne]
    · refine ⟨m, ?_, rfl, fun _ => rfl⟩
      rw [hrecs_parts, List.getElem?_append_right (by rw [Led.recs_len]; omega), Led.recs_len] at hj
      rw [hrecs_parts, List.getElem?_append_right (by rw [Led.recs_len]; show (Led.markL H.l i s t).length ≤ j; omega), Led.recs_len, hr]
      show (restR H)[j - (Led.markL H.l i s t).length]? = _
      rw [hll]
      exact hj
theorem boB_size {B : Cal.Bo} (h : Cal.BInv B) : (Cal.boB B).size ≤ 4000 := by
  show ((encs (Cal.bN B)).toArray).size ≤ 4000
  rw [List.size_toArray]
  have h1 := encs_len (Cal.bN B)
  have h2 : (Cal.bN B).length = 2 + 6 * B.os.length := Cal.bnK_len (Nat.le_refl _)
  have h3 := h.len
  omega
theorem max_big : 5000 ≤ maxLen := by unfold maxLen; omega
theorem bkRecs_mem (ms : List Cal.Bo) : ∀ (k : Nat) (m : Rc), m ∈ bkRecs ms k → ∃ i, i < k ∧ m = bkRec ms i
  | 0, m, h => by cases h
  | k + 1, m, h => by
    rw [bkRecs] at h
    rcases List.mem_append.1 h with e | e
    · obtain ⟨i, hi, e⟩ := bkRecs_mem ms k m e
      exact ⟨i, by omega, e⟩
    · exact ⟨k, by omega, List.mem_singleton.1 e⟩
theorem slRecs_mem (ss : List (Option (Clo.Au × Int))) : ∀ (k : Nat) (m : Rc), m ∈ slRecs ss k → ∃ i x, i < k ∧ ss[i]? = some (some x) ∧ m = slRec i x
  | 0, m, h => by cases h
  | k + 1, m, h => by
    unfold slRecs at h
    split at h
    · next x hx =>
      rcases List.mem_append.1 h with e | e
      · obtain ⟨i, y, hi, h1, h2⟩ := slRecs_mem ss k m e
        exact ⟨i, y, by omega, h1, h2⟩
      · exact ⟨k, x, by omega, hx, List.mem_singleton.1 e⟩
    · obtain ⟨i, y, hi, h1, h2⟩ := slRecs_mem ss k m h
      exact ⟨i, y, by omega, h1, h2⟩
theorem enc_size (n : Nat) : (⟨(enc n).toArray⟩ : ByteArray).size ≤ 10 := by
  show (enc n).toArray.size ≤ 10
  rw [List.size_toArray]
  exact enc_le n
theorem hrecs_small {w : World} {X : Ad} {H : Hs} (h : Hm w base X H) : ∀ m ∈ hrecs H, m.key.size ≤ maxLen ∧ m.dat.size ≤ maxLen := by
  have hM := max_big
  intro m hm
  rw [hrecs_parts] at hm
  rcases List.mem_append.1 hm with e | e
  · exact Led.recs_small h.ha.lg.inv m e
  · unfold restR at e
    rcases List.mem_append.1 e with e | e
    · obtain ⟨i, hi, rfl⟩ := bkRecs_mem _ _ _ e
      obtain ⟨B, hB⟩ : ∃ B, H.ms[i]? = some B := ⟨H.ms[i]'(by rw [h.mks.nm]; exact hi), by simp⟩
      obtain ⟨b, hb⟩ := get_both hB (h.mks.nb.trans h.mks.nm.symm)
      have h1 := boB_size (h.mks.bk i b B hb hB).inv
      refine ⟨?_, ?_⟩
      · show (bkKey i).size ≤ maxLen
        unfold bkKey
        rw [ByteArray.size_append]
        have e1 : (⟨#[98, 111, 111, 107, 47]⟩ : ByteArray).size = 5 := rfl
        have e2 : (Led.dig1 i).size = 1 := rfl
        omega
      · show (Cal.boB (H.ms[i]?.getD ⟨1, []⟩)).size ≤ maxLen
        rw [hB]
        show (Cal.boB B).size ≤ maxLen
        omega
    · rcases List.mem_append.1 e with e | e
      · obtain ⟨i, x, hi, hx, rfl⟩ := slRecs_mem _ _ _ e
        obtain ⟨sa, hsa⟩ := get_both hx (h.sls.ns.trans h.sls.nn.symm)
        cases sa with
        | none => have := (h.sls.non i).1 hsa; rw [hx] at this; cases this
        | some a =>
          have h1 := auB_size (h.sls.sal i a x hsa hx).2.1.inv.len.2
          have h2 := enc_size x.2.toNat
          refine ⟨?_, ?_⟩
          · show (slKey i).size ≤ maxLen
            unfold slKey
            rw [ByteArray.size_append]
            have e1 : (⟨#[99, 108, 111, 99, 107, 47]⟩ : ByteArray).size = 6 := rfl
            have e2 : (Led.dig1 i).size = 1 := rfl
            omega
          · show (slVal x).size ≤ maxLen
            unfold slVal
            rw [ByteArray.size_append]
            omega
      · obtain rfl := List.mem_singleton.1 e
        have h2 := enc_size H.now.toNat
        refine ⟨?_, ?_⟩
        · show (⟨#[110, 111, 119]⟩ : ByteArray).size ≤ maxLen
          have e1 : (⟨#[110, 111, 119]⟩ : ByteArray).size = 3 := rfl
          omega
        · show (⟨(enc H.now.toNat).toArray⟩ : ByteArray).size ≤ maxLen
          omega
theorem rcs_h {w w' : World} {X : Ad} {H : Hs} {b0 : Nat} {v : Value} (h : Hm w base X H) (ho : w'.ownsRow b0 38 2 v (hrecs H).length (rcCells (hrecs H))) : Rcs w' v (hrecs H) := rcs_of_own ho (hrecs_small h)
/-- A row of one's own that is newer than the house, behind a step of the house. -/
theorem own_hst {w w' : World} {X : Ad} {t : TypeId} {sz n : Nat} {v : Value} {xs : List Value} {b0 : Nat} (ho : w.ownsRow b0 t sz v n xs) (c : Chg X.foot w w') (hf : ∀ k, X.foot k → k < b0) : w'.ownsRow b0 t sz v n xs :=
  own_chg ho c fun k hk e => by
    have h1 := (World.ownsRow.lt ho k hk).1
    have h2 := hf k e
    omega
/-- What becomes of a request: not taken; refused; done. -/
theorem refused_cases {H : Hs} (hp : Pst H) (who stamp : Int) (op : ByteArray) (D : ByteArray × Int × Hs) (hD : doR H who stamp op = D) :
    (D.2.1 ≠ 0 ∧ D.1 = ⟨#[]⟩ ∧ D.2.2 = H) ∨
    (D.2.1 = 0 ∧ (∃ (b : UInt8) (r : List UInt8), D.1 = ⟨(b :: r).toArray⟩ ∧ b ≠ 0) ∧ ∃ i : Nat, who = i ∧ i < H.l.length ∧ D.2.2 = { H with l := Led.markL H.l i stamp D.1 }) ∨
    (D.2.1 = 0 ∧ ∃ (r : List UInt8), D.1 = ⟨((0 : UInt8) :: r).toArray⟩) := by
  subst hD
  by_cases hr : refR H.l who stamp = 0
  · right
    have e1 : (doR H who stamp op).2.1 = 0 := by unfold doR; rw [if_pos hr]
    have e3 : (doR H who stamp op).1 = layR (reqR H who op).1 (valR H who op) := by unfold doR; rw [if_pos hr]
    have e4 : (doR H who stamp op).2.2 = doneS who stamp (reqR H who op) (valR H who op) := by unfold doR; rw [if_pos hr]
    obtain ⟨b, r, hb, hb0⟩ := layR_head (c := (reqR H who op).1) (V := valR H who op) (reqR_cd H who op).1
    by_cases hc : (reqR H who op).1 = 0
    · right
      exact ⟨e1, r, by rw [e3, hb, hb0.2 hc]⟩
    · left
      have hH : (reqR H who op).2 = H := by
        unfold reqR at hc ⊢
        split
        · next o ho => rw [ho] at hc; exact deedR_not hp hc
        · rfl
      have hls := layR_size (reqR H who op).1 (valR H who op)
      obtain ⟨i, hi, hi2, e⟩ := markR_is (l' := H.l) (t := layR (reqR H who op).1 (valR H who op)) hr rfl (fun _ => rfl) (by omega)
      refine ⟨e1, ⟨b, r, e3.trans hb, fun e => hc (hb0.1 e)⟩, i, hi, hi2, ?_⟩
      rw [e4, e3]
      unfold doneS
      rw [hH, e]
  · left
    refine ⟨?_, ?_, ?_⟩
    · unfold doR; rw [if_neg hr]; exact hr
    · unfold doR; rw [if_neg hr]
    · unfold doR; rw [if_neg hr]
/-- The stamp of a request that was taken, or a lower one, is taken no more. -/
theorem once_case {H : Hs} (hg : H.g ≤ 4) {who s1 : Int} {op : ByteArray} (h : (doR H who s1 op).2.1 = 0) (s2 : Int) (h2 : s2 ≤ s1) (op2 : ByteArray) :
    ∃ e : Int, (e = 91 ∨ e = 1) ∧ doR (doR H who s1 op).2.2 who s2 op2 = (⟨#[]⟩, e, (doR H who s1 op).2.2) := by
  have hr : refR H.l who s1 = 0 := by
    unfold doR at h
    split at h
    · next hr => exact hr
    · exact h
  obtain ⟨H', hH'⟩ : ∃ H', (reqR H who op).2 = H' := ⟨_, rfl⟩
  have hk : H'.l.length = H.l.length ∧ ∀ j, (Led.kAt H'.l j).n 10 = (Led.kAt H.l j).n 10 := by
    rw [← hH']
    unfold reqR
    split
    · next o _ => exact ⟨(deedR_dps hg who o).l.len, (deedR_dps hg who o).l.st⟩
    · exact ⟨rfl, fun _ => rfl⟩
  have hls := layR_size (reqR H who op).1 (valR H who op)
  obtain ⟨i, rfl, hi, e⟩ := markR_is (l' := H'.l) (t := layR (reqR H who op).1 (valR H who op)) hr hk.1 hk.2 (by omega)
  have e4 : (doR H (i : Int) s1 op).2.2.l = Led.markL H'.l i s1 (layR (reqR H (i : Int) op).1 (valR H (i : Int) op)) := by
    unfold doR
    rw [if_pos hr]
    show (Led.markR (reqR H (i : Int) op).2.l (i : Int) s1 _).2 = _
    rw [hH', e]
  have hn : (Led.kAt (doR H (i : Int) s1 op).2.2.l i).n 10 = s1 := by
    rw [e4]
    unfold Led.markL
    rw [Led.kAt_set _ hi, if_pos rfl]
    rfl
  have hl : (doR H (i : Int) s1 op).2.2.l.length = H'.l.length := by rw [e4]; exact Led.markL_len _ _ _ _
  generalize (doR H (i : Int) s1 op).2.2 = H2 at *
  have hr2 : refR H2.l i s2 = 91 ∨ refR H2.l i s2 = 1 := by
    unfold refR
    rw [if_neg (by omega), Int.toNat_natCast, hn]
    split
    · exact Or.inr rfl
    · first | exact Or.inl rfl | (rw [if_pos h2]; exact Or.inl rfl)
  refine ⟨refR H2.l i s2, hr2, ?_⟩
  unfold doR
  rw [if_neg (by rcases hr2 with e | e <;> rw [e] <;> decide)]
theorem markR_other {l : Ks} {who s : Int} {t : ByteArray} {i : Nat} (h : (i : Int) ≠ who) : Led.kAt (Led.markR l who s t).2 i = Led.kAt l i := by
  unfold Led.markR
  split
  · rfl
  · split
    · rfl
    · split
      · rfl
      · exact Led.markL_other (by omega)
/-- A request that lets no time go on changes no other client's account. -/
theorem others_case {H : Hs} {who stamp : Int} {op : ByteArray} (hk : ∀ o, ofOpR op = .ok o → o.k ≠ 1) {i : Nat} (h : (i : Int) ≠ who) : Led.kAt (doR H who stamp op).2.2.l i = Led.kAt H.l i := by
  unfold doR
  split
  · show Led.kAt (Led.markR (reqR H who op).2.l who stamp _).2 i = _
    rw [markR_other h]
    unfold reqR
    split
    · next o ho => exact deedR_other (hk o ho) h
    · rfl
  · rfl
theorem neq_selfH (m : Rc) (w : World) : (binOp .neq 38 (.agg #[.string m.key, .string m.dat]) (.agg #[.string m.key, .string m.dat])).run Tryz.prog w = .ok (.bool false) w := by
  have := run_neq_record m m w
  rw [rcEq_self] at this
  exact this
theorem hrecs_len3 (H : Hs) : H.l.length ≤ (hrecs H).length := by
  rw [hrecs_parts, List.length_append, Led.recs_len]; omega
theorem hrecs_len_le (H : Hs) (h1 : H.l.length = 3) (h2 : H.g = 2) : (hrecs H).length ≤ 100 := by
  unfold hrecs
  rw [List.length_append]
  have := hrec2_len H H.g
  simp only [List.length_singleton]
  omega
theorem opAns_formH (r : Except Int Oo) : ∃ (po : Oo) (f : Int), opAns r = #[po.val, .int .i64 f] ∧ ((f = 0 ∧ po.k = 1) ∨ (f ≠ 0 ∧ ∀ o, r = .ok o → o.k ≠ 1) ∨ (f = 0 ∧ po.k ≠ 1 ∧ ∀ o, r = .ok o → o.k ≠ 1)) := by
  cases r with
  | ok o =>
    refine ⟨o, 0, rfl, ?_⟩
    by_cases h : o.k = 1
    · exact Or.inl ⟨rfl, h⟩
    · exact Or.inr (Or.inr ⟨rfl, h, fun o' e => by cases e; exact h⟩)
  | error e =>
    refine ⟨zeroOo, e, rfl, ?_⟩
    by_cases h : e = 0
    · exact Or.inr (Or.inr ⟨h, by decide, fun o' e => by cases e⟩)
    · exact Or.inr (Or.inl ⟨h, fun o' e => by cases e⟩)
end Go.Proofs.YtladgfngddgnlaaGreatDoor

namespace Go.Proofs.YtladgfngddgnlaaGreatDoor
open Go.ChangeShapes Go.WideShapes Go.ChangeAt Go.RowKit

def laidK : List (String × DataW Unit) := [("math/bits.deBruijn32tab", Rows.laid_math_bits_deBruijn32tab), ("math/bits.deBruijn64tab", Rows.laid_math_bits_deBruijn64tab), ("internal/strconv.uint64pow10", Rows.laid_internal_strconv_uint64pow10)]
theorem laid_own : ownKnob Tryz.prog.godebug = none := by kernel_rfl
/-- A world that meets the condition. -/
theorem laid_met (os : Os) (args : Array Value) : laidMetH Tryz.prog laidK ((World.laidAll Tryz.prog os laidK).forCall (fun _ _ => 0) ⟨#[], args, []⟩).memory := by
  rw [MakeChecks.laidMetH_plain _ _ _ (by kernel_rfl)]
  exact laidMet_laidAll _ (by kernel_rfl) (by kernel_rfl)
end Go.Proofs.YtladgfngddgnlaaGreatDoor
