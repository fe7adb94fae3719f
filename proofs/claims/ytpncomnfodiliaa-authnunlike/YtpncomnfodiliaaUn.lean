/- AuthnUnlike for every calls: what it answers. -/
import Derived.Test.YtpncomnfodiliaaAuY
import Derived.Deep.DeepCutAuto
import Derived.Deep.CutBlock
namespace Go.Proofs.Ytpncomnfodiliaa
open Go.RowKit
set_option linter.unusedSimpArgs false
set_option linter.unusedVariables false

/-- A call's signature. -/
def sgOf (S : List (Int × ByteArray)) (a : Ac) : ByteArray := if isSg a.who = true then sgnB (num S (a.who, a.text)) else ⟨#[]⟩
def sgsOf (S : List (Int × ByteArray)) (l : List Ac) : List Value := l.map fun a => .string (sgOf S a)
theorem sgsOf_step (S : List (Int × ByteArray)) (l : List Ac) (w : Int) (t : ByteArray) (h : ∀ q ∈ l, isSg q.who = true → (q.who, q.text) ∈ S) : sgsOf (signS S w t) l = sgsOf S l := by
  unfold sgsOf
  apply List.map_congr_left
  intro q hq
  unfold sgOf
  split
  · rename_i hs
    have hm := h q hq hs
    unfold signS
    split
    · rw [num_note _ hm]
    · rfl
  · rfl
theorem sgsOf_at (S : List (Int × ByteArray)) (l : List Ac) (k j : Nat) (hj : j < k) (hjl : j < l.length) : (sgsOf S (l.take k))[j]? = some (.string (sgOf S l[j])) := by
  simp [sgsOf, hj, hjl]
theorem signR_of (S : List (Int × ByteArray)) (a : Ac) : signR S a.who a.text = #[.string (sgOf (signS S a.who a.text) a), .int .i64 (if isSg a.who = true then 0 else 1)] := by
  unfold signR sgOf signS
  cases isSg a.who <;> simp
theorem sgOf_size (S : List (Int × ByteArray)) (a : Ac) : ((sgOf S a).size == 9) = isSg a.who := by
  unfold sgOf
  cases isSg a.who
  · rfl
  · rfl
theorem sgOf_empty (S : List (Int × ByteArray)) (a : Ac) : ((sgOf S a).toList == (⟨#[]⟩ : ByteArray).toList) = !isSg a.who := by
  rw [strEq]
  unfold sgOf
  cases isSg a.who
  · simp
  · simp only [if_true, Bool.not_true, decide_eq_false_iff_not]
    intro h
    have := congrArg ByteArray.size h
    cases this
theorem sgOf_same (S : List (Int × ByteArray)) (a c : Ac) (ha : isSg a.who = true) (hma : (a.who, a.text) ∈ S) (hmc : isSg c.who = true → (c.who, c.text) ∈ S) (hS : S.length < 1000000) :
    ((sgOf S a).toList == (sgOf S c).toList) = (decide (a.who = c.who) && (a.text.toList == c.text.toList)) := by
  rw [strEq, strEq]
  cases hc : isSg c.who
  · have h1 : ¬ a.who = c.who := fun e => by rw [e, hc] at ha; cases ha
    have h2 : ¬ sgOf S a = sgOf S c := fun e => by
      have := congrArg ByteArray.size e
      unfold sgOf at this
      rw [ha, hc] at this
      cases this
    simp [h1, h2]
  · have hm2 := hmc hc
    unfold sgOf
    rw [ha, hc, if_pos rfl, if_pos rfl]
    have n1 := num_le S (a.who, a.text)
    have n2 := num_le S (c.who, c.text)
    by_cases h : a.who = c.who ∧ a.text = c.text
    · rw [h.1, h.2]; simp
    · have h2 : ¬ sgnB (num S (a.who, a.text)) = sgnB (num S (c.who, c.text)) := fun e => by
        have := num_inj hma hm2 (sgnB_inj (by omega) (by omega) e)
        injection this with a1 a2
        exact h ⟨a1, a2⟩
      rw [decide_eq_false h2]
      by_cases h3 : a.who = c.who
      · have h4 : ¬ a.text = c.text := fun h4 => h ⟨h3, h4⟩
        simp [h4]
      · simp [h3]

set_option maxHeartbeats 2000000 in
set_option maxRecDepth 100000 in
theorem unlike_calls (v : Value) (l : List Ac) (w : World) (hl : Acs w v l) (hll : l.length * 48 ≤ 140737488351232) :
    Calls Try.prog 6 #[v] w fun e w' => e = .returned (.bool true) ∧ Below w.heap.size w w' := by
  have HN : Hid _ := newBook_calls
  have HA : Hid _ := awake_calls
  obtain ⟨a, cap, rfl, hc⟩ := hl.any
  have hcap : 0 < l.length → l.length ≤ cap := fun h => by obtain ⟨_, _, _, h2, _⟩ := hc 0 h; exact h2
  have HC : Hid _ := hc
  clear hc hl
  obtain ⟨i0, hi, hi0, hi1, hi2⟩ := info_parts infoStr
  go_enter Try.func6, Try.ntmps6
  go_wp2_with fail
  refine (HN.out _).mono ?_
  rintro e w1 ⟨p, b, x, y, rfl, K1, b1, hp, hb, hx, hy⟩
  go_upto_if 16 with fail
  go_cut [0] (fun s0 wx => ∃ m : Nat, m ≤ 60 ∧ m ≤ l.length ∧ s0 = .slice a m cap ∧ wx = w1)
  case first =>
    by_cases hlen : 60 < l.length
    · have hd : decide ((60 : Int) < (l.length : Int)) = true := by simp only [decide_eq_true_eq]; omega
      have hc60 : 60 ≤ cap := by have := hcap (by omega); omega
      obtain ⟨g, off, hga, _, hg, _, _⟩ := HC.out 0 (by omega)
      subst hga
      go_wp2_with fail
      go_meet
      exact ⟨60, by omega, by omega, rfl, rfl⟩
    · have hd : decide ((60 : Int) < (l.length : Int)) = false := by simp only [decide_eq_false_iff_not]; omega
      go_wp2_with fail
      go_meet
      exact ⟨l.length, by omega, by omega, rfl, rfl⟩
  case rest =>
    obtain ⟨m, hm1, hm2, rfl, rfl⟩ := hcut
    clear hcap
    rename World => w1
    go_upto_block 0 with fail
    go_cut [4] (fun dv wx => ∃ S : List (Int × ByteArray), S.length ≤ 60 ∧ (∀ q ∈ l.take m, isSg q.who = true → (q.who, q.text) ∈ S) ∧ wx.ownsRow w.heap.size 9 1 dv m (sgsOf S (l.take m)) ∧ Below w.heap.size w wx)
    case first =>
      go_wp2_with fail
      go_loopw [4, 5] (fun dv i wr => ∃ (k : Nat) (S : List (Int × ByteArray)), k ≤ m ∧ i = .int .i64 k ∧ S.length ≤ k ∧ (∀ q ∈ l.take k, isSg q.who = true → (q.who, q.text) ∈ S) ∧ Book wr p b x y [] S ∧ wr.ownsRow w.heap.size 9 1 dv k (sgsOf S (l.take k)) ∧ Below w.heap.size w wr) (fun _ i _ => m - (intOf i).toNat)
      case atStart => exact ⟨0, [], Nat.zero_le _, rfl, Nat.le_refl _, by simp, K1, World.ownsRow_nil _ _ _ _, b1⟩
      case round =>
        obtain ⟨k, S, hk, rfl, hSl, hSm, K2, ho, hb2⟩ := hrel
        have hz2 := hb2.size
        by_cases hlt : k < m
        · have hdk : decide ((k : Int) < (m : Int)) = true := by simp only [decide_eq_true_eq]; omega
          have hlt' : k < l.length := by omega
          obtain ⟨g, off, hga, _, hg, hcel, hfit⟩ := HC.out k hlt'
          subst hga
          have d1 := keepCell hb2 (hcel 1 _ rfl)
          have d2 := keepCell hb2 (hcel 2 _ rfl)
          have hsz := hfit.1
          have htk : l.take (k + 1) = l.take k ++ [l[k]] := List.take_succ_eq_append_getElem hlt'
          generalize hA : l[k] = ac at *
          have hSi := bookSign_calls ac.who ac.text wr.drew (K2.below (Below.refl _ _).drew) (by omega) hsz
          rw [signR_of] at hSi
          have hst := sgsOf_step S (l.take k) ac.who ac.text hSm
          have hsn := sgOf_size (signS S ac.who ac.text) ac
          have hlen := signS_len S ac.who ac.text
          have hS2 : ∀ q ∈ l.take (k + 1), isSg q.who = true → (q.who, q.text) ∈ signS S ac.who ac.text := by
            rw [htk]
            intro q hq hqs
            rcases List.mem_append.1 hq with h1 | h1
            · have := hSm q h1 hqs
              unfold signS; split
              · exact (mem_note _ _ _).2 (Or.inl this)
              · exact this
            · have hq2 : q = ac := by simpa using h1
              subst hq2
              unfold signS; rw [if_pos hqs]
              exact (mem_note _ _ _).2 (Or.inr rfl)
          have HT : Hid (sgsOf (signS S ac.who ac.text) (l.take (k + 1)) = sgsOf S (l.take k) ++ [.string (sgOf (signS S ac.who ac.text) ac)]) := by
            show _ = _
            rw [htk, ← hst]; simp [sgsOf]
          have HS2 : Hid _ := hS2
          clear hS2 htk hst
          generalize signS S ac.who ac.text = S2 at *
          generalize sgOf S2 ac = sv at *
          obtain ⟨N, hN⟩ : ∃ N, isSg ac.who = N := ⟨_, rfl⟩
          rw [hN] at hSi hsn
          have hsg : N = decide (0 ≤ ac.who ∧ ac.who ≤ 255) := by rw [← hN]; rfl
          have HNm : Hid _ := hsg
          clear hsg hN
          cases ac with | mk ak aw at_ asg =>
          simp only at *
          obtain ⟨ev, hev⟩ : ∃ ev : Int, (if N = true then (0 : Int) else 1) = ev := ⟨_, rfl⟩
          rw [hev] at hSi
          have HEV : Hid _ := hev
          clear hev
          go_upto_region 10 with fail
          go_cut [6, 7] (fun s6 s7 wx => s6 = .string sv ∧ s7 = .int .i64 ev ∧ Book wx p b x y [] S2 ∧ Below w.heap.size w wx ∧ wx.ownsRow w.heap.size 9 1 u4 k (sgsOf S (l.take k)) ∧ wx.cell? ⟨g, off + k * 4 + 1, none⟩ = some (.int .i64 aw))
          case first =>
            go_region_with (go_at_call 13; refine hSi.mono ?_; rintro e w3 ⟨rfl, K3, o3⟩; have hb3 := o3.below hx hy (hb2.drew) hz2; have ho3 := own_off2 (K2.below (Below.refl _ _).drew) (own_below ho (Below.refl _ _).drew) o3; have e1 := keepCell2 (K2.below (Below.refl _ _).drew) o3 d1)
            all_goals (go_wp2_with fail; go_meet; exact ⟨rfl, rfl, K3, hb3, ho3, e1⟩)
          case rest =>
            obtain ⟨rfl, rfl, K3, hb3, ho3, e1⟩ := hcut
            clear hSi K2 ho hb2 hz2 d1 d2
            rename World => w3
            have hz3 := hb3.size
            go_upto_region 11 with fail
            go_cut [8] (fun s8 wx => s8 = .bool N ∧ wx = w3)
            case first =>
              by_cases h1 : 0 ≤ aw
              · have hd1 : decide (0 ≤ aw) = true := decide_eq_true h1
                obtain ⟨B, hB⟩ : ∃ B, decide (aw ≤ 255) = B := ⟨_, rfl⟩
                have hNB : N = B := by rw [HNm.out, ← hB]; simp [h1]
                subst hNB
                go_wp2_with fail
                go_meet
                exact ⟨rfl, rfl⟩
              · have hd1 : decide (0 ≤ aw) = false := decide_eq_false h1
                have hNB : N = false := by rw [HNm.out]; simp [h1]
                subst hNB
                go_wp2_with fail
                go_meet
                exact ⟨rfl, rfl⟩
            case rest =>
              obtain ⟨rfl, rfl⟩ := hcut
              have h9 : ((sv.size : Int) == 9) = N := by
                rw [← hsn]
                by_cases h : sv.size = 9
                · rw [h]; rfl
                · have h' : ¬ (sv.size : Int) = 9 := by omega
                  rw [beq_eq_false_iff_ne.2 h', beq_eq_false_iff_ne.2 h]
              have h9' : decide ((sv.size : Int) = 9) = N := h9
              have hE : (ev == 0) = N := by rw [← HEV.out]; cases N <;> rfl
              have hE' : decide (ev = 0) = N := hE
              rename World => w3
              go_upto_region 14 with fail
              go_wp2_with (at_builtin; refine wpList_append_own _ rfl _ _ 26 rfl w.heap.size 9 i0 (.string ⟨#[]⟩) 1 16 Try.underlying26 hi hi0 hi1 hi2 rfl (by decide) _ _ _ rfl (ho3.alloc _) ⟨w3.heap.size, 0, none⟩ 1 1 [.string sv] rfl rfl ?c1 ?c2 ?c3 ?c4 ?c5 ?_)
              case c1 => exact cell_one_new _ _ _
              case c2 => intro u hu; simp at hu; subst hu; rfl
              case c3 => unfold maxLen; omega
              case c4 => omega
              case c5 => simp; omega
              intro v' w4 hown' hgrow _
              have K4 : Book w4 p b x y [] S2 := Book.grown (K3.below ((Below.refl _ _).alloc (Nat.le_refl _) _)) hgrow (K3.apart ho3 (by decide) (by decide))
              have hb4 : Below w.heap.size w w4 := below_grown (hb3.alloc (by omega) _) hgrow (fun k hk => (ho3.lt k hk).1) (by simp; omega)
              rw [← HT.out] at hown'
              go_wp2
              refine ⟨⟨k + 1, S2, by omega, by norm_cast, by omega, HS2.out, K4, hown', hb4⟩, ?_⟩
              simp [intOf]; omega
        · have hdk : decide ((k : Int) < (m : Int)) = false := by simp only [decide_eq_false_iff_not]; omega
          obtain rfl : k = m := by omega
          go_wp2_with fail
          go_meet
          exact ⟨S, by omega, hSm, ho, hb2⟩
    case rest =>
      obtain ⟨S, hSl, hSm, ho, hb2⟩ := hcut
      clear K1
      rename World => w2
      have HM : Hid _ := hSm
      clear hSm
      have hz2 := hb2.size
      go_upto_block 2 with fail
      go_cut [] (fun wx => Below w2.heap.size w2 wx)
      case first =>
        go_wp2_with fail
        rename World => w2
        go_loopw [9] (fun i wr => ∃ j : Nat, j ≤ m ∧ i = .int .i64 j ∧ Below w2.heap.size w2 wr) (fun i _ => m - (intOf i).toNat)
        case atStart => exact ⟨0, Nat.zero_le _, rfl, Below.refl _ _⟩
        case round =>
          rename World => w3
          obtain ⟨j, hj, rfl, b3⟩ := hrel
          have hz3 := b3.size
          by_cases hjt : j < m
          · have hdj : decide ((j : Int) < (m : Int)) = true := by simp only [decide_eq_true_eq]; omega
            have hjl : j < l.length := by omega
            obtain ⟨g, off, hga, _, hg, hcel, hfit⟩ := HC.out j hjl
            subst hga
            obtain ⟨g2, cap2, rfl, hg2, hcap2, hrow⟩ := own_at ho (by omega)
            have f1 := keepCell b3 (keepCell hb2 (hcel 1 _ rfl))
            have f2 := keepCell b3 (keepCell hb2 (hcel 2 _ rfl))
            have f3 := keepCell b3 (hrow j _ (sgsOf_at S l m j hjt hjl))
            have hmj := HM.out l[j] (List.mem_take_iff_getElem.2 ⟨j, by omega, rfl⟩)
            have hem := sgOf_empty S l[j]
            generalize hAj : l[j] = aj at *
            have HI : Hid (∀ i (h : i < j), ∃ (D1 : Int) (D2 D3 : ByteArray) (B1 B2 : Bool), w3.cell? ⟨g, off + i * 4 + 1, none⟩ = some (.int .i64 D1) ∧ w3.cell? ⟨g, off + i * 4 + 2, none⟩ = some (.string D2) ∧ w3.cell? ⟨g2, i, none⟩ = some (.string D3) ∧ decide (aj.who = D1) = B1 ∧ (aj.text.toList == D2.toList) = B2 ∧ (isSg aj.who = true → ((sgOf S aj).toList == D3.toList) = (B1 && B2))) := fun i hij => by
              have hil : i < l.length := by omega
              obtain ⟨g', off', hga', _, _, hcel', _⟩ := HC.out i hil
              simp only [Option.some.injEq, Addr.mk.injEq] at hga'
              obtain ⟨rfl, rfl, _⟩ := hga'
              refine ⟨l[i].who, l[i].text, sgOf S l[i], _, _, keepCell b3 (keepCell hb2 (hcel' 1 _ rfl)), keepCell b3 (keepCell hb2 (hcel' 2 _ rfl)), keepCell b3 (hrow i _ (sgsOf_at S l m i (by omega) hil)), rfl, rfl, fun hs => ?_⟩
              exact sgOf_same S aj l[i] hs (hmj hs) (fun hc => HM.out l[i] (List.mem_take_iff_getElem.2 ⟨i, by omega, rfl⟩) hc) (by omega)
            cases hnj : isSg aj.who with
            | false =>
              have hD0 : sgOf S aj = ⟨#[]⟩ := by unfold sgOf; rw [hnj]; rfl
              rw [hD0] at f3
              clear hem
              rw [hnj] at HI
              go_wp2_with fail
              rename World => w3
              go_loopw [10] (fun i wr => ∃ q : Nat, q ≤ j ∧ i = .int .i64 q ∧ Below w3.heap.size w3 wr) (fun i _ => j - (intOf i).toNat)
              case atStart => exact ⟨0, Nat.zero_le _, rfl, Below.refl _ _⟩
              case round =>
                rename World => w4
                obtain ⟨q, hq, rfl, b4⟩ := hrel
                have hz4 := b4.size
                by_cases hqt : q < j
                · have hdq : decide ((q : Int) < (j : Int)) = true := by simp only [decide_eq_true_eq]; omega
                  have hqm : q < m := by omega
                  obtain ⟨D1, D2, D3, B1, B2, hg1, hg2, hg3, hk1, hk2, hk3⟩ := HI.out q hqt
                  have t1 : w4.cell? ⟨g, off + j * 4 + 1, none⟩ = some (.int .i64 aj.who) := keepCell b4 f1
                  have t2 : w4.cell? ⟨g, off + j * 4 + 2, none⟩ = some (.string aj.text) := keepCell b4 f2
                  have t3 : w4.cell? ⟨g2, j, none⟩ = some (.string ⟨#[]⟩) := keepCell b4 f3
                  have t4 : w4.cell? ⟨g, off + q * 4 + 1, none⟩ = some (.int .i64 D1) := keepCell b4 hg1
                  have t5 : w4.cell? ⟨g, off + q * 4 + 2, none⟩ = some (.string D2) := keepCell b4 hg2
                  have t6 : w4.cell? ⟨g2, q, none⟩ = some (.string D3) := keepCell b4 hg3
                  have hk1' : (aj.who == D1) = B1 := by rw [← hk1]; rfl
                  clear hg1 hg2 hg3 HI
                  clear hD0
                  generalize aj.who = Wj at *
                  generalize aj.text = Tj at *
                  have hk4 : Hid _ := hk3
                  clear hk3 hnj
                  go_wp2_with fail
                  go_region
                  all_goals
                    go_wp2
                    refine ⟨⟨q + 1, by omega, by norm_cast, b4.drew⟩, ?_⟩
                    simp [intOf]; omega
                · have hdq : decide ((q : Int) < (j : Int)) = false := by simp only [decide_eq_false_iff_not]; omega
                  go_wp2
                  refine ⟨⟨j + 1, by omega, by norm_cast, b3.trans (b4.mono hz3)⟩, ?_⟩
                  simp [intOf]; omega
            | true =>
              have hD0 : ¬ (sgOf S aj).toList = [] := fun e => by
                have h1 : ((sgOf S aj).toList == (⟨#[]⟩ : ByteArray).toList) = true := by rw [e]; decide +kernel
                rw [hem, hnj] at h1; cases h1
              have hD1 : ((sgOf S aj).toList == []) = false := by rw [beq_eq_false_iff_ne]; exact hD0
              have hD2 : (sgOf S aj).toList.isEmpty = false := by rw [List.isEmpty_eq_false_iff]; exact hD0
              rw [hnj] at hem HI
              go_wp2_with fail
              rename World => w3
              go_loopw [10] (fun i wr => ∃ q : Nat, q ≤ j ∧ i = .int .i64 q ∧ Below w3.heap.size w3 wr) (fun i _ => j - (intOf i).toNat)
              case atStart => exact ⟨0, Nat.zero_le _, rfl, Below.refl _ _⟩
              case round =>
                rename World => w4
                obtain ⟨q, hq, rfl, b4⟩ := hrel
                have hz4 := b4.size
                by_cases hqt : q < j
                · have hdq : decide ((q : Int) < (j : Int)) = true := by simp only [decide_eq_true_eq]; omega
                  have hqm : q < m := by omega
                  obtain ⟨D1, D2, D3, B1, B2, hg1, hg2, hg3, hk1, hk2, hk3⟩ := HI.out q hqt
                  have t1 : w4.cell? ⟨g, off + j * 4 + 1, none⟩ = some (.int .i64 aj.who) := keepCell b4 f1
                  have t2 : w4.cell? ⟨g, off + j * 4 + 2, none⟩ = some (.string aj.text) := keepCell b4 f2
                  have t3 : w4.cell? ⟨g2, j, none⟩ = some (.string (sgOf S aj)) := keepCell b4 f3
                  have t4 : w4.cell? ⟨g, off + q * 4 + 1, none⟩ = some (.int .i64 D1) := keepCell b4 hg1
                  have t5 : w4.cell? ⟨g, off + q * 4 + 2, none⟩ = some (.string D2) := keepCell b4 hg2
                  have t6 : w4.cell? ⟨g2, q, none⟩ = some (.string D3) := keepCell b4 hg3
                  have hk1' : (aj.who == D1) = B1 := by rw [← hk1]; rfl
                  clear hg1 hg2 hg3 HI
                  generalize sgOf S aj = Dj at *
                  generalize aj.who = Wj at *
                  generalize aj.text = Tj at *
                  have hk4 := hk3 (by simp)
                  clear hk3 hnj
                  cases B1
                  · go_wp2_with fail
                    go_region
                    all_goals
                      go_wp2
                      refine ⟨⟨q + 1, by omega, by norm_cast, b4.drew⟩, ?_⟩
                      simp [intOf]; omega
                  · cases B2
                    · go_wp2_with fail
                      go_region
                      all_goals
                        go_wp2
                        refine ⟨⟨q + 1, by omega, by norm_cast, b4.drew⟩, ?_⟩
                        simp [intOf]; omega
                    · go_wp2_with fail
                      go_region
                      all_goals
                        go_wp2
                        refine ⟨⟨q + 1, by omega, by norm_cast, b4.drew⟩, ?_⟩
                        simp [intOf]; omega
                · have hdq : decide ((q : Int) < (j : Int)) = false := by simp only [decide_eq_false_iff_not]; omega
                  go_wp2
                  refine ⟨⟨j + 1, by omega, by norm_cast, b3.trans (b4.mono hz3)⟩, ?_⟩
                  simp [intOf]; omega
          · have hdj : decide ((j : Int) < (m : Int)) = false := by simp only [decide_eq_false_iff_not]; omega
            go_wp2_with fail
            go_meet
            exact b3
      case rest =>
        have b6 := hcut
        have hb6 := hb2.trans (b6.mono hz2)
        go_wp2_with fail
        refine (HA.out _).mono ?_
        rintro e w7 ⟨rfl, b7⟩
        go_wp2
        go_ret
        exact ⟨rfl, hb6.trans (b7.mono hb6.size)⟩
end Go.Proofs.Ytpncomnfodiliaa
