/- AuthnTwice for every input: what it answers. -/
import Derived.Test.YtpncomnfodiliabSl
import Derived.Test.YtpncomnfodiliabTwP
namespace Go.Proofs.Ytpncomnfodiliab
open Go.RowKit
set_option linter.unusedSimpArgs false
set_option linter.unusedVariables false

theorem append_emptyT (p : Option Addr) (c : Nat) (w : World) : (Builtin.append_ #[25, 25] 25 #[.slice none 0 0, .slice p 0 c]).run Try.prog w = .ok (.slice none 0 0) w := by
  cases p with
  | none => kernel_rfl
  | some a => kernel_rfl
theorem wpList_append_givenT (w : World) {ops : Array Oper} {rest : List Oper} {o : Oper} {a : Act} {Q : Exit → Act → World → Prop} (hgd : o.guard = none) (s x : Operand) (t : TypeId)
    (ho : o.op = .call { callee := .builtin .append, args := #[s, x], argTypes := #[t, t] }) (v u : Value) (hs : a.eval s = v) (hx : a.eval x = u) {v' : Value} {w' : World}
    (hr : (Builtin.append_ #[t, t] o.type #[v, u]).run Try.prog w = .ok v' w') (h : wpList Try.prog ops Q rest (a.put o.dst v') w') : wpList Try.prog ops Q (o :: rest) a w :=
  wpList_plain hgd fun K hK => by
    unfold Oper.wp execOp
    simp only [ho, resolve, invoke, builtin, Sem.run_bind, Sem.run_pure, Result.andThen_ok, List.map_toArray, List.map_cons, List.map_nil, hs, hx, hr]
    exact hK _ _ h
theorem sgs_of_sgCT {w : World} {base : Nat} {v : Value} {l : List Sg} (h : w.ownsRow base 30 3 v l.length (sgC l)) (hz : ∀ m ∈ l, m.body.size ≤ maxLen ∧ m.sig.size ≤ maxLen) : Sgs w v l :=
  sgs_of_own (show w.ownsRow base 30 3 v l.length (sgCells l) from h) hz
theorem sgC_len (l : List Sg) : (sgC l).length = l.length * 3 := by
  induction l with
  | nil => rfl
  | cons m l ih =>
    have e : sgC (m :: l) = .int .i64 m.frm :: .string m.body :: .string m.sig :: sgC l := by simp [sgC]
    rw [e]; simp [ih]; omega
theorem sgC_get (l : List Sg) : ∀ (i : Nat) (h : i < l.length), (sgC l)[i * 3]? = some (.int .i64 l[i].frm) ∧ (sgC l)[i * 3 + 1]? = some (.string l[i].body) ∧ (sgC l)[i * 3 + 2]? = some (.string l[i].sig) := by
  induction l with
  | nil => intro i h; simp at h
  | cons m l ih =>
    intro i h
    have e : sgC (m :: l) = .int .i64 m.frm :: .string m.body :: .string m.sig :: sgC l := by simp [sgC]
    rw [e]
    match i, h with
    | 0, h => exact ⟨rfl, rfl, rfl⟩
    | i + 1, h =>
      have := ih i (by simpa using h)
      have e1 : (i + 1) * 3 = i * 3 + 3 := by omega
      rw [e1]
      exact this
theorem sgC_one (l : List Sg) : ∀ u ∈ sgC l, u.oneCell' = true := by
  intro u hu
  unfold sgC at hu
  obtain ⟨m, _, hm⟩ := List.mem_flatMap.1 hu
  simp only [List.mem_cons, List.not_mem_nil, or_false] at hm
  rcases hm with rfl | rfl | rfl <;> rfl
theorem rev_take_succ {α : Type} (l : List α) (k : Nat) (h : k < l.length) : l.reverse.take (k + 1) = l.reverse.take k ++ [l[l.length - 1 - k]'(by omega)] := by
  rw [List.take_succ_eq_append_getElem (by simpa using h), List.getElem_reverse]
theorem vMsg_sizesT (S : List (Int × ByteArray)) (v : Vt) : (vMsg S v).body.size ≤ maxLen ∧ (vMsg S v).sig.size ≤ maxLen := by
  have h1 : (sealR S v.who v.bd).1.body.size ≤ 1048576 := by
    unfold sealR
    split
    · split
      · exact byS_size _
      · exact (by decide : zeroSg.body.size ≤ 1048576)
    · exact (by decide : zeroSg.body.size ≤ 1048576)
  have h2 := sealR_sig S v.who v.bd
  have ha : ∀ s : ByteArray, (s ++ (⟨#[120]⟩ : ByteArray)).size = s.size + 1 := fun s => by rw [ByteArray.size_append]; rfl
  unfold vMsg spoil maxLen
  split
  · refine ⟨?_, ?_⟩
    · show (sealR S v.who v.bd).1.body.size ≤ _; omega
    · show ((sealR S v.who v.bd).1.sig ++ _).size ≤ _; rw [ha]; omega
  · split
    · refine ⟨?_, ?_⟩
      · show (sealR S v.who v.bd).1.body.size ≤ _; omega
      · show (sealR S v.who v.bd).1.sig.size ≤ _; omega
    · exact ⟨by omega, by omega⟩
theorem vMs_sizesT : ∀ (l : List Vt) (S : List (Int × ByteArray)), ∀ m ∈ vMs l S, m.body.size ≤ maxLen ∧ m.sig.size ≤ maxLen
  | [], _, m, h => by cases h
  | v :: l, S, m, h => by
    rcases List.mem_cons.1 h with rfl | h
    · exact vMsg_sizesT S v
    · exact vMs_sizesT l _ m h

set_option maxHeartbeats 4000000 in
set_option maxRecDepth 100000 in
theorem twice_calls (v : Value) (l : List Vt) (view seq : Int) (dg : ByteArray) (below : Int) (w : World) (hl : Vts w v l) (hll : l.length * 56 ≤ 140737488351232) :
    Calls Try.prog 3 #[v, .int .i64 view, .int .i64 seq, .string dg, .int .i64 below] w fun e w' => e = .returned (.bool true) ∧ Below w.heap.size w w' := by
  have HN : Hid _ := newBook_calls
  have HA : Hid _ := awake_calls
  obtain ⟨iS, hS, hS0, hS1, hS2⟩ := info_parts infoSg3
  have HL0 : Hid _ := hl
  clear hl
  go_enter Try.func3, Try.ntmps3
  go_wp2_with fail
  refine (HN.out _).mono ?_
  rintro e w1 ⟨p, b, x, y, rfl, K1, b1, hp, hb, hx, hy⟩
  go_wp2_with fail
  refine (sealed_calls _ l w _ HL0.out hll K1 b1 hx hy).mono ?_
  rintro e w3 ⟨ov, gv, rfl, K3, oo, og, b3⟩
  have z3 := b3.size
  obtain ⟨N, hN⟩ : ∃ N, (l.take 60).length = N := ⟨_, rfl⟩
  have hN60 : N ≤ 60 := by rw [← hN]; simp; omega
  have hSl : (vSt (l.take 60)).length ≤ 60 := Nat.le_trans (vSt_len _) (by simp; omega)
  have hml : (vMs (l.take 60) []).length = N := by rw [vMs_len, hN]
  have hsz := vMs_sizesT (l.take 60) []
  rw [hN] at oo
  generalize vMs (l.take 60) [] = ms at *
  generalize vSt (l.take 60) = S at *
  clear HL0 hll hN og
  obtain ⟨hq1, hq2⟩ := qset_bounds (vote S 3 view seq dg) below ms
  have htw := qset_twice (vote S 3 view seq dg) below ms
  subst hml
  rcases Nat.eq_zero_or_pos ms.length with h0 | h0
  · obtain rfl := List.length_eq_zero_iff.1 h0
    obtain ⟨po, co, rfl⟩ := sgs_of_own' oo
    have hq1' := fun wx (hb : Below w3.heap.size w3 wx) po co => quorum_calls (S := S) (T := []) (p := p) (b := b) (x := x) (y := y) (.slice po 0 co) [] 3 view seq dg below wx (K3.below hb) (by omega) (Or.inl ⟨⟨_, _, rfl⟩, rfl⟩) (by simp)
    have hqz : (qset (vote S 3 view seq dg) below []).length = 0 := rfl
    rw [hqz] at hq1'
    have HQ1 : Hid _ := hq1'
    clear hq1'
    have hd2 : decide ((0 : Int) ≤ max 0 below) = true := by simp only [decide_eq_true_eq]; omega
    go_wp2_with (at_builtin; refine wpList_append_givenT _ rfl _ _ 25 rfl _ _ rfl rfl (append_emptyT po co _) ?_)
    go_wp2_with fail
    refine wp_loop_rounds 1 ?_
    rw [rounds_succ]
    go_wp2_with fail
    refine (HQ1.out _ (Below.refl _ _) _ _).mono ?_
    rintro e w5 ⟨rfl, b5⟩
    go_wp2_with fail
    refine (HQ1.out _ b5 _ _).mono ?_
    rintro e w6 ⟨rfl, b6⟩
    have B6 : Below w.heap.size w w6 := b3.trans ((b5.trans (b6.mono b5.size)).mono z3)
    go_wp2_with fail
    refine (HA.out _).mono ?_
    rintro e w7 ⟨rfl, b7⟩
    go_wp2
    go_ret
    exact ⟨rfl, B6.trans (b7.mono B6.size)⟩
  · obtain ⟨g2, cap2, rfl, hg2, hcap2, hrow⟩ := own_at oo h0
    go_wp2_with (at_builtin; refine wpList_append_own _ rfl _ _ 25 rfl w3.heap.size 30 iS (.agg #[.int .i64 0, .string ⟨#[]⟩, .string ⟨#[]⟩]) 3 40 Try.underlying25 hS hS0 hS1 hS2 rfl (by decide) (.slice none 0 0) 0 [] rfl (World.ownsRow_nil _ _ _ _) ⟨g2, 0, none⟩ ms.length cap2 (sgC ms) rfl (sgC_len ms) ?c1 ?c2 ?c3 ?c4 ?c5 ?_)
    case c1 =>
      intro j u hj
      rw [Addr.add_mid, Nat.zero_add]
      exact hrow j u hj
    case c2 => exact sgC_one ms
    case c3 => unfold maxLen; omega
    case c4 => omega
    case c5 => exact Nat.le_refl _
    intro v' w4 hown' hgrow _
    have B34 : Below w3.heap.size w3 w4 := below_grown (Below.refl _ _) hgrow (fun k hk => by cases hk) (Nat.le_refl _)
    have K4 := K3.below B34
    have oo4 := own_below oo B34
    have b4 := b3.trans (B34.mono z3)
    clear hgrow oo4 K4 b4
    have HROW : Hid _ := hrow
    have hbl := World.block_lt_of_cell? w3 _ (hrow 0 _ (by have := (sgC_get ms 0 h0).1; simpa using this))
    clear hrow
    have hml : (sgC ms).length = ms.length * 3 := sgC_len ms
    go_wp2_with fail
    go_loopw [14, 15] (fun mv i wr => ∃ q : Nat, q ≤ ms.length ∧ i = .int .i64 ((q : Int) - 1) ∧ wr.ownsRow w3.heap.size 30 3 mv (ms.length + (ms.length - q)) (sgC (ms ++ ms.reverse.take (ms.length - q))) ∧ Below w3.heap.size w3 wr) (fun _ i _ => (intOf i + 1).toNat)
    case atStart =>
      refine ⟨ms.length, Nat.le_refl _, rfl, ?_, B34⟩
      have e : ms ++ ms.reverse.take (ms.length - ms.length) = ms := by simp
      rw [e, Nat.sub_self, Nat.add_zero]
      simpa using hown'
    case round =>
      obtain ⟨q, hq, rfl, ho, hbw⟩ := hrel
      have hzw := hbw.size
      cases q with
      | zero =>
        have hlen : (ms ++ ms.reverse.take (ms.length - 0)).length = ms.length + (ms.length - 0) := by simp
        have hqm : ms ++ ms.reverse.take (ms.length - 0) = ms ++ ms.reverse := by rw [Nat.sub_zero, List.take_of_length_le (by simp)]
        have hmem : ∀ m ∈ ms ++ ms.reverse, m.body.size ≤ maxLen ∧ m.sig.size ≤ maxLen := fun m hm => by
          rcases List.mem_append.1 hm with h | h
          · exact hsz m h
          · exact hsz m (List.mem_reverse.1 h)
        have hso : Sgs wr u14 (ms ++ ms.reverse) := by
          rw [hqm] at ho
          exact sgs_of_sgCT (by simpa using ho) hmem
        have hq1' := quorum_calls (S := S) (T := []) (p := p) (b := b) (x := x) (y := y) (.slice (some ⟨g2, 0, none⟩) ms.length cap2) ms 3 view seq dg below wr (K3.below hbw) (by omega) (sgs_of_sgCT (own_below oo hbw) hsz) (by omega)
        have hq2' := fun wx (hb : Below wr.heap.size wr wx) => quorum_calls (S := S) (T := []) (p := p) (b := b) (x := x) (y := y) u14 (ms ++ ms.reverse) 3 view seq dg below wx ((K3.below hbw).below hb) (by omega) (hso.below hb) (by simp; omega)
        rw [htw] at hq2'
        have HQ1 : Hid _ := hq1'
        have HQ2 : Hid _ := hq2'
        clear hq1' hq2' htw hso ho hmem hqm hlen
        generalize (qset (vote S 3 view seq dg) below ms).length = C at *
        go_wp2_with fail
        refine Calls.mono HQ1.out ?_
        rintro e w5 ⟨rfl, b5⟩
        go_wp2_with fail
        refine (HQ2.out _ b5).mono ?_
        rintro e w6 ⟨rfl, b6⟩
        have B6 : Below w.heap.size w w6 := b3.trans ((hbw.trans ((b5.trans (b6.mono b5.size)).mono hzw)).mono z3)
        have hd1 : decide ((0 : Int) ≤ (C : Int)) = true := by simp
        have hd2 : decide ((C : Int) ≤ max 0 below) = true := decide_eq_true hq2
        have hd3 : decide ((C : Int) ≤ (ms.length : Int)) = true := by simp only [decide_eq_true_eq]; omega
        go_wp2_with fail
        refine (HA.out _).mono ?_
        rintro e w7 ⟨rfl, b7⟩
        go_wp2
        go_ret
        exact ⟨rfl, B6.trans (b7.mono B6.size)⟩
      | succ q =>
        have hiq : (((q + 1 : Nat) : Int) - 1) = (q : Int) := by omega
        rw [hiq]
        obtain ⟨g0, g1, g2'⟩ := sgC_get ms q (by omega)
        have c0 := keepCell hbw (HROW.out _ _ g0)
        have c1 := keepCell hbw (HROW.out _ _ g1)
        have c2 := keepCell hbw (HROW.out _ _ g2')
        have hrt : ms.reverse.take (ms.length - q) = ms.reverse.take (ms.length - (q + 1)) ++ [ms[q]] := by
          have e1 : ms.length - q = (ms.length - (q + 1)) + 1 := by omega
          rw [e1, rev_take_succ ms _ (by omega)]
          congr 3
          omega
        have hcc : sgC (ms ++ ms.reverse.take (ms.length - q)) = sgC (ms ++ ms.reverse.take (ms.length - (q + 1))) ++ [.int .i64 ms[q].frm, .string ms[q].body, .string ms[q].sig] := by
          rw [hrt, ← List.append_assoc, sgC_snoc]
        have HCC : Hid _ := hcc
        clear hcc hrt g0 g1 g2'
        generalize sgC (ms ++ ms.reverse.take (ms.length - (q + 1))) = OC at *
        generalize ms[q] = M at *
        have hql : q < ms.length := by omega
        have hd0 : decide ((0 : Int) ≤ (q : Int)) = true := by simp
        go_wp2_with (at_builtin; refine wpList_append_own _ rfl _ _ 25 rfl w3.heap.size 30 iS (.agg #[.int .i64 0, .string ⟨#[]⟩, .string ⟨#[]⟩]) 3 40 Try.underlying25 hS hS0 hS1 hS2 rfl (by decide) _ _ _ rfl (ho.alloc _) ⟨wr.heap.size, 0, none⟩ 1 1 [.int .i64 M.frm, .string M.body, .string M.sig] rfl rfl ?c1 ?c2 ?c3 ?c4 ?c5 ?_)
        case c1 => exact row_new _ _ _ _ _
        case c2 => intro u hu; simp at hu; rcases hu with rfl | rfl | rfl <;> rfl
        case c3 => unfold maxLen; omega
        case c4 => omega
        case c5 => simp; omega
        intro v' w5 hown' hgrow _
        have hb5 : Below w3.heap.size w3 w5 := below_grown (hbw.alloc (by omega) _) hgrow (fun k hk => (ho.lt k hk).1) (by simp; omega)
        go_wp2
        refine ⟨⟨q, by omega, by norm_cast, ?_, hb5⟩, ?_⟩
        · rw [HCC.out]
          have e2 : ms.length + (ms.length - q) = ms.length + (ms.length - (q + 1)) + 1 := by omega
          rw [e2]
          exact hown'
        · simp [intOf]
end Go.Proofs.Ytpncomnfodiliab
