/- MerkleBack: a key that is put and dropped again leaves the root as it was. -/
import Derived.Test.YtpcafjbebhcilaaGreatTm46
import Derived.Test.YtpcafjbebhcilaaGreatTm45
import Derived.Test.YtpcafjbebhcilaaGreatTm34
namespace Go.Proofs.YtpcafjbebhcilaaGreat
open Go.RowKit
set_option linter.unusedSimpArgs false
set_option linter.unusedVariables false

theorem maxT {s : ByteArray} (h : s.size ≤ 140737488351232) : s.size ≤ maxLen := by unfold maxLen; omega
theorem putL_ne {l : List Rc} {r : Nat} {m : Rc} (hri : Rising l) (hs : Spot l m.key r) (hn : hasAt l r m.key = false) : putL l r m ≠ l := fun e => by
  have := (putL_spot hri hs hn).2.2.2
  rw [e] at this
  omega
set_option maxHeartbeats 8000000 in
set_option maxRecDepth 100000 in
theorem merkleBack_calls (v : Value) (l : List Tac) (key dat : ByteArray) (w : World) (hl : Tacs w v l) (hk : key.size ≤ maxLen) (hd : dat.size ≤ maxLen) :
    Calls Tryz.prog 5 #[v, .string key, .string dat] w fun e w' => e = .returned (.bool true) ∧ Below w.heap.size w w' := by
  have HAW : Hid _ := fun (wx : World) => awake_calls wx
  obtain ⟨a, cap, rfl, hE⟩ := hl.any
  have HL : Hid _ := hE
  clear hl hE
  go_enter Tryz.func5, Tryz.ntmps5
  go_wp2_with fail
  refine (newBook_calls _).mono ?_
  rintro e w1 ⟨p, b, x, y, rfl, hB, b1, hp, hb, hx, hy⟩
  go_wp2_with fail
  refine (treeNew_calls _ hB (by decide)).mono ?_
  rintro e w2 ⟨k, rfl, hk2, T2, b2⟩
  have B2 := chain b1 b2
  have hkw : w.heap.size ≤ k := Nat.le_trans b1.size hk2
  clear b1 b2 hB
  go_wp2_with fail
  go_loopw [9] (fun i wr => ∃ (n : Nat) (T : List ByteArray) (tl : List Rc) (lv dv : Value), n ≤ l.length ∧ n ≤ 60 ∧ i = .int .i64 n ∧ Hid (Tre wr (k + 1) k p b x y T [] tl lv dv ∧ Below w.heap.size w wr) ∧ T.length ≤ n ∧ tl.length ≤ n) (fun i _ => l.length - (intOf i).toNat)
  case atStart => exact ⟨0, [], [], _, _, Nat.zero_le _, Nat.zero_le _, rfl, ⟨T2, B2⟩, Nat.le_refl _, Nat.le_refl _⟩
  case round =>
    obtain ⟨n, T, tl, lv, dv, hn, hn6, rfl, HT, hTl, htl⟩ := hrel
    by_cases hlt : n < l.length ∧ n < 60
    · obtain ⟨hlt, hlt6⟩ := hlt
      have d1 : decide ((n : Int) < (l.length : Int)) = true := by simp only [decide_eq_true_eq]; omega
      have d2 : decide ((n : Int) < 60) = true := by simp only [decide_eq_true_eq]; omega
      have hnl : (n : Int) < (l.length : Int) := by omega
      obtain ⟨g, off, rfl, _, hgw, hc, hfit⟩ := HL.out n hlt
      have c0 : wr.cell? ⟨g, off + n * 3, none⟩ = some (.int .i64 l[n].kind) := by
        have := hc 0 _ rfl
        rw [Nat.add_zero] at this
        exact keepCell HT.out.2 this
      have c1 : wr.cell? ⟨g, off + n * 3 + 1, none⟩ = some (.string l[n].key) := keepCell HT.out.2 (hc 1 _ rfl)
      have c2 : wr.cell? ⟨g, off + n * 3 + 2, none⟩ = some (.string l[n].dat) := keepCell HT.out.2 (hc 2 _ rfl)
      generalize l[n] = q at *
      have HP : Hid _ := play_calls q.kind q.key q.dat (.slice none 0 0) [] 0 wr HT.out.1 (by omega) (by simp) (by omega) (maxT hfit.1) (maxT hfit.2) (World.ownsRow_nil _ _ _ _) (Nat.zero_le _) Rising.nil (fun m hm => by cases hm) (Or.inl rfl)
      clear hc hfit
      go_wp2_with fail
      refine Calls.mono HP.out ?_
      rintro e w3 ⟨c, v', ok, lv', dv', T', rfl, T3, C3, N3, M3, hT3, _, _, _, _⟩
      have hs := stepL_len c q.key q.dat tl
      have B3 : Below w.heap.size w w3 := Tch.low HT.out.1 C3 hkw hx hy HT.out.2
      go_wp2
      refine ⟨⟨n + 1, T', _, lv', dv', by omega, by omega, by norm_cast, ⟨T3, B3⟩, by omega, by omega⟩, ?_⟩
      simp [intOf]; omega
    · have HN : Hid (n ≤ 60) := hn6
      have hend : Hid (T.length ≤ 60 ∧ tl.length ≤ 60) := ⟨by omega, by omega⟩
      have hstop : decide ((n : Int) < (l.length : Int)) = false ∨ (decide ((n : Int) < (l.length : Int)) = true ∧ decide ((n : Int) < 60) = false) := by
        rcases Nat.lt_or_ge n l.length with h1 | h1
        · exact Or.inr ⟨decide_eq_true (by omega), decide_eq_false (by omega)⟩
        · exact Or.inl (decide_eq_false (by omega))
      obtain ⟨hT6, htl6⟩ := hend.out
      have T3 := HT.out.1
      have B3 := HT.out.2
      have HRT : Hid _ := treeRootM_calls wr T3 (by omega) (by omega)
      have HXY : Hid _ := And.intro hkw (And.intro hx hy)
      have HTT : Hid _ := T3
      have HBB : Hid _ := B3
      clear hlt hn hn6 hTl htl T3 B3 HT hp hb HL T2 B2
      rcases hstop with hs | ⟨hs1, hs2⟩
      · have hs3 : ¬ (n : Int) < (l.length : Int) := of_decide_eq_false hs
        go_wp2_with fail
        refine Calls.mono HRT.out ?_
        rintro e w4 ⟨rt, T4, rfl, hR4, G4⟩
        have X4 := Tre.grew HTT.out G4
        have l4 := G4.len
        have z4 : T4.length ≤ 200 := by omega
        have HX4 : Hid _ := X4
        have C4 : Below w.heap.size w w4 := Tch.low HTT.out (Tch.of_off2 G4.off) HXY.out.1 HXY.out.2.1 HXY.out.2.2 HBB.out
        have HR4 : Hid _ := hR4
        clear X4 hR4 G4 l4
        go_wp2_with fail
        refine Calls.mono (treeGet_calls key w4 HX4.out (by omega)) ?_
        rintro e w5 ⟨r, hsp, rfl, b5⟩
        have HX5 : Hid _ := Tre.below HX4.out b5
        have C5 := chain C4 b5
        have HSP : Hid _ := hsp
        clear hsp
        cases hh : hasAt tl r key
        · generalize valAt tl r key = va at *
          have HH : Hid _ := hh
          clear hh
          cases hb : rcBad ⟨key, dat⟩
          · have HB : Hid _ := hb
            have HP : Hid _ := treePut_calls key dat w5 HX5.out (by omega) (by omega) hb
            clear hb
            go_wp2_with fail
            refine Calls.mono HP.out ?_
            rintro e w6 ⟨rfl, r6, lv6, dv6, hsp6, T6, K6, _, _⟩
            have hrr := hsp6.same HSP.out
            subst hrr
            obtain ⟨hs7, hh7, hd7, hn7⟩ := putL_spot (m := ⟨key, dat⟩) (HX5.out).rise hsp6 HH.out
            have nl := note_len T4 (leafT ⟨key, dat⟩)
            have C6 := Tch.low HX5.out K6 HXY.out.1 HXY.out.2.1 HXY.out.2.2 C5
            have HR6 : Hid _ := treeRootM_calls w6 T6 (by omega) (by omega)
            have HT6 : Hid _ := T6
            have HS7 : Hid _ := And.intro hs7 (And.intro hh7 (And.intro hd7 hn7))
            have HS6 : Hid _ := hsp6
            clear T6 hs7 hh7 hd7 hn7 hsp6 HP
            go_wp2_with fail
            refine Calls.mono HR6.out ?_
            rintro e w7 ⟨rt7, T7, rfl, hR7, G7⟩
            have X7 := Tre.grew HT6.out G7
            have l7 := G7.len
            have hn7 := HS7.out.2.2.2
            have z7 : T7.length < 1000 := by omega
            have e47 : Ext T4 T7 := (Ext.note _ _).trans G7.ext
            have hne : rt7 ≠ rt := fun e => by
              subst e
              have := RootOf.inj (by omega) (RootOf.ext e47 HR4.out) hR7 (by omega) (by omega) (HX5.out).fit X7.fit
              exact putL_ne (m := ⟨key, dat⟩) (HX5.out).rise HS6.out HH.out this.symm
            have dne : (rt7.toList == rt.toList) = false := by rw [strEq]; exact decide_eq_false hne
            have C7 := Tch.low HT6.out (Tch.of_off2 (k := k) (lv := lv6) (dv := dv6) G7.off) HXY.out.1 HXY.out.2.1 HXY.out.2.2 C6
            have HD7 : Hid _ := treeDrop_calls key w7 X7 (by omega)
            have HX7 : Hid _ := X7
            have HE7 : Hid _ := And.intro e47 G7.off.size
            clear X7 hR7 G7 l7 hne e47 HR6
            go_wp2_with fail
            refine Calls.mono HD7.out ?_
            rintro e w8 ⟨r8, lv8, dv8, hsp8, rfl, T8, K8, _, _⟩
            have h8 := hsp8.same HS7.out.1
            subst h8
            have C8 := Tch.low HX7.out K8 HXY.out.1 HXY.out.2.1 HXY.out.2.2 C7
            have T8' : Tre w8 (k + 1) k p b x y T7 [] tl lv8 dv8 := by have := T8; rw [HS7.out.2.2.1] at this; exact this
            have hb8 : hasAt (putL tl r8 ⟨key, dat⟩) r8 key = true := HS7.out.2.1
            rw [hb8]
            have HD8 : Hid _ := treeDrop_calls key w8 T8' (by omega)
            have HT8 : Hid _ := T8'
            clear T8 T8' hsp8 hb8 HD7
            go_wp2_with fail
            refine Calls.mono HD8.out ?_
            rintro e w9 ⟨r9, lv9, dv9, hsp9, rfl, T9, K9, _, _⟩
            have h9 := hsp9.same HSP.out
            subst h9
            have hf : hasAt tl r9 key = false := HH.out
            have C9 := Tch.low HT8.out K9 HXY.out.1 HXY.out.2.1 HXY.out.2.2 C8
            have T9' : Tre w9 (k + 1) k p b x y T7 [] tl lv9 dv9 := by
              have := T9
              unfold dropL at this
              rw [hf] at this
              exact this
            rw [hf]
            have HR9 : Hid _ := treeRootM_calls w9 T9' (by omega) (by omega)
            have HT9 : Hid _ := T9'
            clear T9 T9' hsp9 hf HD8
            go_wp2_with fail
            refine Calls.mono HR9.out ?_
            rintro e w10 ⟨rt10, T10, rfl, hR10, G10⟩
            have he10 : rt10 = rt := hR10.same (RootOf.ext (HE7.out.1.trans G10.ext) HR4.out)
            subst he10
            have C10 := Tch.low HT9.out (Tch.of_off2 (k := k) (lv := lv9) (dv := dv9) G10.off) HXY.out.1 HXY.out.2.1 HXY.out.2.2 C9
            clear hR10 G10 HR9
            go_wp2_with fail
            refine (HAW.out _).mono ?_
            rintro e w11 ⟨rfl, b11⟩
            go_wp2
            go_ret
            exact ⟨rfl, chain C10 b11⟩
          · have HBI : Hid _ := rcBad_is key dat
            rw [hb] at HBI
            have HP : Hid _ := treePut_bad key dat w5 HX5.out hk hd hb
            have HF : Hid _ := fun (wx : World) => refFits_calls key wx
            clear hb
            go_wp2_with fail
            refine Calls.mono HP.out ?_
            rintro e w6 ⟨rfl, b6⟩
            have HX6 : Hid _ := Tre.below HX5.out b6
            have C6 := chain C5 b6
            have HR6 : Hid _ := treeRootM_calls w6 HX6.out (by omega) (by omega)
            cases hik : isK key
            · rw [hik] at HF
              go_wp2_with fail
              refine (HF.out _).mono ?_
              rintro e w7 ⟨rfl, rfl⟩
              go_wp2_with fail
              refine Calls.mono HR6.out ?_
              rintro e w8 ⟨rt8, T8, rfl, hR8, G8⟩
              have he8 : rt8 = rt := hR8.same (RootOf.ext G8.ext HR4.out)
              subst he8
              have C8 := Tch.low HX6.out (Tch.of_off2 (k := k) (lv := lv) (dv := dv) G8.off) HXY.out.1 HXY.out.2.1 HXY.out.2.2 C6
              clear hR8 G8
              go_wp2_with fail
              refine (HAW.out _).mono ?_
              rintro e w9 ⟨rfl, b9⟩
              go_wp2
              go_ret
              exact ⟨rfl, chain C8 b9⟩
            · rw [hik] at HF
              have hbi := HBI.out
              rw [hik] at hbi
              have hd4 : decide ((4096 : Int) < (dat.size : Int)) = true := by
                have : 4096 < dat.size := by simpa using hbi.symm
                exact decide_eq_true (by omega)
              clear hbi
              go_wp2_with fail
              refine (HF.out _).mono ?_
              rintro e w7 ⟨rfl, rfl⟩
              go_wp2_with fail
              refine Calls.mono HR6.out ?_
              rintro e w8 ⟨rt8, T8, rfl, hR8, G8⟩
              have he8 : rt8 = rt := hR8.same (RootOf.ext G8.ext HR4.out)
              subst he8
              have C8 := Tch.low HX6.out (Tch.of_off2 (k := k) (lv := lv) (dv := dv) G8.off) HXY.out.1 HXY.out.2.1 HXY.out.2.2 C6
              clear hR8 G8
              go_wp2_with fail
              refine (HAW.out _).mono ?_
              rintro e w9 ⟨rfl, b9⟩
              go_wp2
              go_ret
              exact ⟨rfl, chain C8 b9⟩
        · generalize valAt tl r key = va at *
          go_wp2_with fail
          refine (HAW.out _).mono ?_
          rintro e w6 ⟨rfl, b6⟩
          go_wp2
          go_ret
          exact ⟨rfl, chain C5 b6⟩
      · have hs3 : (n : Int) < (l.length : Int) := of_decide_eq_true hs1
        have hs4 : ¬ (n : Int) < 60 := of_decide_eq_false hs2
        go_wp2_with fail
        refine Calls.mono HRT.out ?_
        rintro e w4 ⟨rt, T4, rfl, hR4, G4⟩
        have X4 := Tre.grew HTT.out G4
        have l4 := G4.len
        have z4 : T4.length ≤ 200 := by omega
        have HX4 : Hid _ := X4
        have C4 : Below w.heap.size w w4 := Tch.low HTT.out (Tch.of_off2 G4.off) HXY.out.1 HXY.out.2.1 HXY.out.2.2 HBB.out
        have HR4 : Hid _ := hR4
        clear X4 hR4 G4 l4
        go_wp2_with fail
        refine Calls.mono (treeGet_calls key w4 HX4.out (by omega)) ?_
        rintro e w5 ⟨r, hsp, rfl, b5⟩
        have HX5 : Hid _ := Tre.below HX4.out b5
        have C5 := chain C4 b5
        have HSP : Hid _ := hsp
        clear hsp
        cases hh : hasAt tl r key
        · generalize valAt tl r key = va at *
          have HH : Hid _ := hh
          clear hh
          cases hb : rcBad ⟨key, dat⟩
          · have HB : Hid _ := hb
            have HP : Hid _ := treePut_calls key dat w5 HX5.out (by omega) (by omega) hb
            clear hb
            go_wp2_with fail
            refine Calls.mono HP.out ?_
            rintro e w6 ⟨rfl, r6, lv6, dv6, hsp6, T6, K6, _, _⟩
            have hrr := hsp6.same HSP.out
            subst hrr
            obtain ⟨hs7, hh7, hd7, hn7⟩ := putL_spot (m := ⟨key, dat⟩) (HX5.out).rise hsp6 HH.out
            have nl := note_len T4 (leafT ⟨key, dat⟩)
            have C6 := Tch.low HX5.out K6 HXY.out.1 HXY.out.2.1 HXY.out.2.2 C5
            have HR6 : Hid _ := treeRootM_calls w6 T6 (by omega) (by omega)
            have HT6 : Hid _ := T6
            have HS7 : Hid _ := And.intro hs7 (And.intro hh7 (And.intro hd7 hn7))
            have HS6 : Hid _ := hsp6
            clear T6 hs7 hh7 hd7 hn7 hsp6 HP
            go_wp2_with fail
            refine Calls.mono HR6.out ?_
            rintro e w7 ⟨rt7, T7, rfl, hR7, G7⟩
            have X7 := Tre.grew HT6.out G7
            have l7 := G7.len
            have hn7 := HS7.out.2.2.2
            have z7 : T7.length < 1000 := by omega
            have e47 : Ext T4 T7 := (Ext.note _ _).trans G7.ext
            have hne : rt7 ≠ rt := fun e => by
              subst e
              have := RootOf.inj (by omega) (RootOf.ext e47 HR4.out) hR7 (by omega) (by omega) (HX5.out).fit X7.fit
              exact putL_ne (m := ⟨key, dat⟩) (HX5.out).rise HS6.out HH.out this.symm
            have dne : (rt7.toList == rt.toList) = false := by rw [strEq]; exact decide_eq_false hne
            have C7 := Tch.low HT6.out (Tch.of_off2 (k := k) (lv := lv6) (dv := dv6) G7.off) HXY.out.1 HXY.out.2.1 HXY.out.2.2 C6
            have HD7 : Hid _ := treeDrop_calls key w7 X7 (by omega)
            have HX7 : Hid _ := X7
            have HE7 : Hid _ := And.intro e47 G7.off.size
            clear X7 hR7 G7 l7 hne e47 HR6
            go_wp2_with fail
            refine Calls.mono HD7.out ?_
            rintro e w8 ⟨r8, lv8, dv8, hsp8, rfl, T8, K8, _, _⟩
            have h8 := hsp8.same HS7.out.1
            subst h8
            have C8 := Tch.low HX7.out K8 HXY.out.1 HXY.out.2.1 HXY.out.2.2 C7
            have T8' : Tre w8 (k + 1) k p b x y T7 [] tl lv8 dv8 := by have := T8; rw [HS7.out.2.2.1] at this; exact this
            have hb8 : hasAt (putL tl r8 ⟨key, dat⟩) r8 key = true := HS7.out.2.1
            rw [hb8]
            have HD8 : Hid _ := treeDrop_calls key w8 T8' (by omega)
            have HT8 : Hid _ := T8'
            clear T8 T8' hsp8 hb8 HD7
            go_wp2_with fail
            refine Calls.mono HD8.out ?_
            rintro e w9 ⟨r9, lv9, dv9, hsp9, rfl, T9, K9, _, _⟩
            have h9 := hsp9.same HSP.out
            subst h9
            have hf : hasAt tl r9 key = false := HH.out
            have C9 := Tch.low HT8.out K9 HXY.out.1 HXY.out.2.1 HXY.out.2.2 C8
            have T9' : Tre w9 (k + 1) k p b x y T7 [] tl lv9 dv9 := by
              have := T9
              unfold dropL at this
              rw [hf] at this
              exact this
            rw [hf]
            have HR9 : Hid _ := treeRootM_calls w9 T9' (by omega) (by omega)
            have HT9 : Hid _ := T9'
            clear T9 T9' hsp9 hf HD8
            go_wp2_with fail
            refine Calls.mono HR9.out ?_
            rintro e w10 ⟨rt10, T10, rfl, hR10, G10⟩
            have he10 : rt10 = rt := hR10.same (RootOf.ext (HE7.out.1.trans G10.ext) HR4.out)
            subst he10
            have C10 := Tch.low HT9.out (Tch.of_off2 (k := k) (lv := lv9) (dv := dv9) G10.off) HXY.out.1 HXY.out.2.1 HXY.out.2.2 C9
            clear hR10 G10 HR9
            go_wp2_with fail
            refine (HAW.out _).mono ?_
            rintro e w11 ⟨rfl, b11⟩
            go_wp2
            go_ret
            exact ⟨rfl, chain C10 b11⟩
          · have HBI : Hid _ := rcBad_is key dat
            rw [hb] at HBI
            have HP : Hid _ := treePut_bad key dat w5 HX5.out hk hd hb
            have HF : Hid _ := fun (wx : World) => refFits_calls key wx
            clear hb
            go_wp2_with fail
            refine Calls.mono HP.out ?_
            rintro e w6 ⟨rfl, b6⟩
            have HX6 : Hid _ := Tre.below HX5.out b6
            have C6 := chain C5 b6
            have HR6 : Hid _ := treeRootM_calls w6 HX6.out (by omega) (by omega)
            cases hik : isK key
            · rw [hik] at HF
              go_wp2_with fail
              refine (HF.out _).mono ?_
              rintro e w7 ⟨rfl, rfl⟩
              go_wp2_with fail
              refine Calls.mono HR6.out ?_
              rintro e w8 ⟨rt8, T8, rfl, hR8, G8⟩
              have he8 : rt8 = rt := hR8.same (RootOf.ext G8.ext HR4.out)
              subst he8
              have C8 := Tch.low HX6.out (Tch.of_off2 (k := k) (lv := lv) (dv := dv) G8.off) HXY.out.1 HXY.out.2.1 HXY.out.2.2 C6
              clear hR8 G8
              go_wp2_with fail
              refine (HAW.out _).mono ?_
              rintro e w9 ⟨rfl, b9⟩
              go_wp2
              go_ret
              exact ⟨rfl, chain C8 b9⟩
            · rw [hik] at HF
              have hbi := HBI.out
              rw [hik] at hbi
              have hd4 : decide ((4096 : Int) < (dat.size : Int)) = true := by
                have : 4096 < dat.size := by simpa using hbi.symm
                exact decide_eq_true (by omega)
              clear hbi
              go_wp2_with fail
              refine (HF.out _).mono ?_
              rintro e w7 ⟨rfl, rfl⟩
              go_wp2_with fail
              refine Calls.mono HR6.out ?_
              rintro e w8 ⟨rt8, T8, rfl, hR8, G8⟩
              have he8 : rt8 = rt := hR8.same (RootOf.ext G8.ext HR4.out)
              subst he8
              have C8 := Tch.low HX6.out (Tch.of_off2 (k := k) (lv := lv) (dv := dv) G8.off) HXY.out.1 HXY.out.2.1 HXY.out.2.2 C6
              clear hR8 G8
              go_wp2_with fail
              refine (HAW.out _).mono ?_
              rintro e w9 ⟨rfl, b9⟩
              go_wp2
              go_ret
              exact ⟨rfl, chain C8 b9⟩
        · generalize valAt tl r key = va at *
          go_wp2_with fail
          refine (HAW.out _).mono ?_
          rintro e w6 ⟨rfl, b6⟩
          go_wp2
          go_ret
          exact ⟨rfl, chain C5 b6⟩
end Go.Proofs.YtpcafjbebhcilaaGreat
