/- Answers; what the laws of a client make: a consortium, a reply. -/
import Derived.Test.YtbbhihkeljpikaaClH
import Derived.Test.YtbbhihkeljpikaaOne
import Derived.Lib.Slices
import Derived.Deep.OwnRows
namespace Go.Proofs.Ytbbhihkeljpikaa
open Go.RowKit
set_option linter.unusedSimpArgs false
set_option linter.unusedVariables false

variable {p b x y : Nat} {T : List ByteArray} {S : List (Int × ByteArray)} {q tm tc : Nat} {av : Value} {C : Cs} {w0 : World}
theorem anC_one (l : Rps) : (anC l).all (·.oneCell') = true := by
  unfold anC
  simp [List.all_flatMap, Value.oneCell']
theorem addr_litC (b j : Nat) : (⟨b, 0, none⟩ : Addr).add j = ⟨b, j, none⟩ := by rw [Addr.add_mid, Nat.zero_add]
set_option maxHeartbeats 4000000 in
set_option maxRecDepth 100000 in
theorem aclone_calls (base : Nat) (v : Value) (l : Rps) (w : World) (hv : w.ownsRow base 44 2 v l.length (anC l)) (hn : l.length ≤ 1000000) :
    Calls Try.prog 24 #[v] w fun e w' => ∃ v', e = .returned v' ∧ w'.ownsRow w.heap.size 44 2 v' l.length (anC l) ∧ Below w.heap.size w w' := by
  obtain ⟨i0, hi, hz0, hz1, hz2⟩ := info_parts infoAn
  rcases hv.2 with ⟨rfl, h0⟩ | ⟨g, cap, cur, rfl, hb, hg, hc4, hc5, hc6, ht⟩
  · have hq : ∀ w, (binOp .eql 35 (.slice none 0 0) (.slice none 0 0)).run Try.prog w = .ok (.bool true) w := fun w => Lib.run_eql_slice_nil w 35 44 none 0 0 0 0 Try.underlying35
    have HV : Hid _ := hv.1
    go_enter Try.func24, Try.ntmps24
    go_wp2
    go_ret
    exact ⟨_, rfl, ⟨HV.out, Or.inl ⟨rfl, h0⟩⟩, Below.refl _ _⟩
  · have HB : Hid (Blk w g cur 44) := hg
    have HT : Hid (cur.toList.take (l.length * 2) = anC l) := ht
    clear hg ht hc4 hc5 hc6 hv
    have hq : ∀ w, (binOp .eql 35 (.slice (some ⟨g, 0, none⟩) l.length cap) (.slice none 0 0)).run Try.prog w = .ok (.bool false) w := fun w => Lib.run_eql_slice_nil w 35 44 (some ⟨g, 0, none⟩) l.length cap 0 0 Try.underlying35
    go_enter Try.func24, Try.ntmps24
    go_wp2_with (at_builtin; refine wpList_append_own _ rfl (.tmp 5) (.tmp 6) 35 rfl w.heap.size 44 i0 (.agg #[.int .i64 0, .string ⟨#[]⟩]) 2 24 Try.underlying35 hi hz0 hz1 hz2 rfl (by decide) _ 0 [] rfl (World.ownsRow_made w #[] 0 (Nat.le_refl _) (by decide) rfl) ⟨g, 0, none⟩ l.length cap (anC l) rfl (anC_len l) ?c1 ?c2 ?c3 ?c4 ?c5 ?_)
    case c1 =>
      intro j u hj
      have hjl : j < l.length * 2 := by have := (List.getElem?_eq_some_iff.1 hj).1; rw [anC_len] at this; exact this
      rw [addr_litC]
      rw [← HT.out, List.getElem?_take, if_pos hjl] at hj
      have hc := Blk.cell (w := w) (k := g) (o := j) (cs := cur) (t := 44) (v := u) HB.out (by simpa using hj)
      have hc2 := (((Below.refl w.heap.size w).alloc (Nat.le_refl _) (.cells #[] 44)).cell (p := ⟨g, j, none⟩) (Blk.lt HB.out)).trans hc
      simpa using hc2
    case c2 => exact fun u hu => List.all_eq_true.1 (anC_one l) u hu
    case c3 => unfold maxLen; omega
    case c4 => omega
    case c5 => simp
    intro v' w6 ho' hg' _
    have b6 : Below w.heap.size w w6 := below_grown ((Below.refl _ _).alloc (Nat.le_refl _) _) hg' (fun q hq => by simp [Value.ownBlock] at hq; omega) (by simp)
    have HS : Hid (w6.ownsRow w.heap.size 44 2 v' l.length (anC l)) := by
      first | exact ho' | simpa using ho'
    clear ho' hg'
    go_wp2
    go_ret
    exact ⟨v', rfl, HS.out, b6⟩
theorem answers_calls (w : World) (h : St w0 w p b x y T S q tm tc av C) (hl : C.ans.length ≤ 1000000) : Calls Try.prog 10 #[.pointer (some ⟨q, 0, none⟩)] w fun e w' => ∃ v, e = .returned v ∧ w'.ownsRow w.heap.size 44 2 v C.ans.length (anC C.ans) ∧ Below w.heap.size w w' := by
  have HM : Hid _ := madeC_calls w h
  have c10 : w.cell? ⟨q, 10, none⟩ = some av := h.blk.cell rfl
  obtain ⟨ab, an, ac, rfl⟩ : ∃ ab an ac, av = .slice ab an ac := by
    rcases h.row.2 with ⟨rfl, _⟩ | ⟨g, cap, cur, rfl, _⟩
    · exact ⟨_, _, _, rfl⟩
    · exact ⟨_, _, _, rfl⟩
  have HC : Hid _ := aclone_calls w0.heap.size (.slice ab an ac) C.ans w h.row hl
  go_enter Try.func10, Try.ntmps10
  go_wp2_with fail
  refine Calls.mono HM.out ?_
  rintro e w2 ⟨rfl, rfl⟩
  go_wp2_with fail
  refine Calls.mono HC.out ?_
  rintro e w3 ⟨v, rfl, ho, b3⟩
  go_wp2
  go_ret
  exact ⟨v, rfl, ho, b3⟩

/-- The law's 'around'. -/
def arn (n m : Int) : Int := if n.tmod m < 0 then 0 - n.tmod m else n.tmod m
theorem arn_range (n m : Int) (h : 1 ≤ m) : 0 ≤ arn n m ∧ arn n m < m := by
  unfold arn
  have h1 := Int.tmod_lt_of_pos n (show 0 < m by omega)
  have h2 : -m < n.tmod m := by
    have := Int.lt_tmod_of_pos n (show 0 < m by omega)
    omega
  split <;> omega
theorem around_calls (n m : Int) (w : World) (h : 1 ≤ m) (hm : m ≤ 1000000) : Calls Try.prog 6 #[.int .i64 n, .int .i64 m] w fun e w' => e = .returned (.int .i64 (arn n m)) ∧ w' = w := by
  have h1 := Int.tmod_lt_of_pos n (show 0 < m by omega)
  have h2 : -m < n.tmod m := by
    have := Int.lt_tmod_of_pos n (show 0 < m by omega)
    omega
  have e0 : ¬ m = 0 := by omega
  have e00 : (m == 0) = false := by simpa using e0
  have e1 : IntKind.i64.wrap (n.tmod m) = n.tmod m := wrapC (by omega) (by omega)
  have e2 : IntKind.i64.wrap (0 - n.tmod m) = 0 - n.tmod m := wrapC (by omega) (by omega)
  have e3 : IntKind.i64.wrap (-n.tmod m) = -n.tmod m := wrapC (by omega) (by omega)
  by_cases hn : n.tmod m < 0
  · have hd : decide (n.tmod m < 0) = true := decide_eq_true hn
    have HR : Hid (arn n m = 0 - n.tmod m) := by show _ = _; unfold arn; rw [if_pos hn]
    go_enter Try.func6, Try.ntmps6
    go_wp2
    go_ret
    exact ⟨by rw [HR.out]; simp, rfl⟩
  · have hd : decide (n.tmod m < 0) = false := decide_eq_false hn
    have HR : Hid (arn n m = n.tmod m) := by show _ = _; unfold arn; rw [if_neg hn]
    go_enter Try.func6, Try.ntmps6
    go_wp2
    go_ret
    exact ⟨by rw [HR.out]; rfl, rfl⟩
theorem config_results {w' : World} {c0 c1 c2 c3 : Value} {r : Nat} (X : Blk w' r #[c0, c1, c2, c3] 26) {t : Array Value} (h1 : t.getD 2 undef = .pointer (some ⟨r, 0, none⟩)) :
    (results Try.f5 t).run Try.prog w' = .ok (.agg #[c0, c1, c2, c3]) w' := by
  have a0 := X.cell (o := 0) rfl
  have a1 := X.cell (o := 1) rfl
  have a2 := X.cell (o := 2) rfl
  have a3 := X.cell (o := 3) rfl
  simp only [Array.getD_eq_getD_getElem?] at h1
  simp [results, Try.results5, go_sem, h1, a0, a1, a2, a3]
set_option maxRecDepth 100000 in
theorem config_calls (n : Int) (w : World) : Calls Try.prog 5 #[.int .i64 n] w fun e w' => e = .returned (.agg #[.int .i64 (1 + arn n 4), .int .i64 3, .int .i64 2, .int .i64 5]) ∧ Below w.heap.size w w' := by
  have hr := arn_range n 4 (by omega)
  have HA : Hid _ := fun wx => around_calls n 4 wx (by omega) (by omega)
  obtain ⟨W1, hW1, X1, B1⟩ : ∃ W1, w.alloc (.cells #[.int .i64 0, .int .i64 0, .int .i64 0, .int .i64 0] 26) = W1 ∧ Blk W1 w.heap.size #[.int .i64 0, .int .i64 0, .int .i64 0, .int .i64 0] 26 ∧ Below w.heap.size w W1 :=
    ⟨_, rfl, blk_new _ _ _ _ rfl, by go_grown⟩
  generalize arn n 4 = a at *
  have e1 : IntKind.i64.wrap (1 + a) = 1 + a := wrapC (by omega) (by omega)
  obtain ⟨W2, hW2, X2, _⟩ := setRow_named X1 #[.int .i64 (1 + a), .int .i64 3, .int .i64 2, .int .i64 5]
  have hGi : (Try.prog.info? 26).map (·.size) = some (#[.int .i64 (1 + a), .int .i64 3, .int .i64 2, .int .i64 5] : Array Value).size := by kernel_rfl
  have hs : (#[.int .i64 0, .int .i64 0, .int .i64 0, .int .i64 0] : Array Value).size = (#[.int .i64 (1 + a), .int .i64 3, .int .i64 2, .int .i64 5] : Array Value).size := rfl
  have ho : (#[.int .i64 (1 + a), .int .i64 3, .int .i64 2, .int .i64 5] : Array Value).all (·.oneCell') = true := by simp [Value.oneCell']
  go_enter Try.func5, Try.ntmps5
  go_wp2_with fail
  refine (HA.out _).mono ?_
  rintro e w2 ⟨rfl, rfl⟩
  go_wp2_with ((with_reducible refine st_row (ty := 26) X1 hGi hs ho hW2 ?_ ?_ ?_); rfl; rfl)
  refine bodyPost_ret (v := .agg #[.int .i64 (1 + a), .int .i64 3, .int .i64 2, .int .i64 5]) (config_results X2 rfl) rfl ?_
  exact ⟨rfl, below_row B1 hW2 (Nat.le_refl _)⟩

set_option maxHeartbeats 2000000 in
set_option maxRecDepth 100000 in
theorem reply_calls (who c st : Int) (t : ByteArray) (w : World) (h : Book w p b x y T S) (hS : S.length < 1000000) (hw : isSg who = true) (hc : 0 ≤ c ∧ c ≤ 15) (hs : 1 ≤ st ∧ st ≤ 1099511627776) (ht : t.size ≤ 256) :
    Calls Try.prog 21 #[.pointer (some ⟨p, 0, none⟩), .int .i64 who, .int .i64 c, .int .i64 st, .string t] w fun e w' => e = .returned (.string ⟨(sgB (sgM S who (smB 10 c st t))).toArray⟩) ∧ Book w' p b x y T (note S (who, byS (smB 10 c st t))) ∧ Off2 x y w w' := by
  have he := reply_right c st t hc hs ht
  have hok := sgM_ok S who (smB 10 c st t) hw
  have hR : sealR S who (smB 10 c st t) = (sgM S who (smB 10 c st t), 0) := by unfold sealR; rw [if_pos he, hw]; rfl
  have hRS : sealS S who (smB 10 c st t) = note S (who, byS (smB 10 c st t)) := by unfold sealS signS; rw [if_pos he, hw]; rfl
  have HSe : Hid _ := seal_calls who (smB 10 c st t) none 0 0 w h hS (show (⟨#[]⟩ : ByteArray).size ≤ maxLen by decide) (by unfold smB maxLen; show t.size ≤ _; omega) (show ([] : List Sg).length < _ by decide) (Or.inl ⟨⟨none, 0, rfl⟩, rfl⟩)
  rw [hR, hRS] at HSe
  obtain ⟨M, hM⟩ : ∃ M, sgM S who (smB 10 c st t) = M := ⟨_, rfl⟩
  obtain ⟨S', hS'⟩ : ∃ S', note S (who, byS (smB 10 c st t)) = S' := ⟨_, rfl⟩
  rw [hM] at HSe hok ⊢
  rw [hS'] at HSe ⊢
  have HO : Hid _ := fun wx => one_ref M wx hok
  have HGs : Hid ((Try.prog.info? 62).map (·.size) = some (#[.int .i64 M.frm, .string M.body, .string M.sig] : Array Value).size) := infoSg3
  unfold Sg.val at HSe HO
  unfold smB Bd.val at HSe
  clear hR hRS hM hS' he hok
  go_enter Try.func21, Try.ntmps21
  go_wp2_with fail
  refine Calls.mono HSe.out ?_
  rintro e w2 ⟨rfl, K2, o2⟩
  obtain ⟨W3, hW3, M3, B3⟩ : ∃ W3, w2.alloc (.cells #[.int .i64 M.frm, .string M.body, .string M.sig] 62) = W3 ∧ Blk W3 w2.heap.size #[.int .i64 M.frm, .string M.body, .string M.sig] 62 ∧ Below w2.heap.size w2 W3 := ⟨_, rfl, blk_new _ _ _ _ rfl, by go_grown⟩
  go_wp2_with ((with_reducible refine rd_row (ty := 62) M3 Try.underlying62 rfl HGs.out ?_ ?_); rfl)
  refine Calls.mono (HO.out _) ?_
  rintro e w4 ⟨rfl, b4⟩
  go_wp2
  go_ret
  exact ⟨rfl, K2.below (chain B3 b4), o2.trans (Off2.of_below (chain B3 b4))⟩
end Go.Proofs.Ytbbhihkeljpikaa
