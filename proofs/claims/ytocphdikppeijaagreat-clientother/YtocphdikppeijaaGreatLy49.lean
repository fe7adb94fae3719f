/- Answers; what the laws of a client make: a consortium, a reply. -/
import Derived.Test.YtocphdikppeijaaGreatLy48
import Derived.Test.YtocphdikppeijaaGreatLy42
import Derived.Lib.Slices
import Derived.Deep.OwnRows
namespace Go.Proofs.YtocphdikppeijaaGreat
open Go.RowKit
set_option linter.unusedSimpArgs false
set_option linter.unusedVariables false

variable {p b x y : Nat} {T : List ByteArray} {S : List (Int × ByteArray)} {q tm tc : Nat} {av : Value} {C : Cs} {w0 : World}
theorem anC_one (l : Rps) : (anC l).all (·.oneCell') = true := by
  unfold anC
  simp [List.all_flatMap, Value.oneCell']
theorem addr_litC (b j : Nat) : (⟨b, 0, none⟩ : Addr).add j = ⟨b, j, none⟩ := by rw [Addr.add_mid, Nat.zero_add]
set_option maxHeartbeats 4000000 in
set_option maxRecDepth 100000 in
theorem aclone_calls (base : Nat) (v : Value) (l : Rps) (w : World) (hv : w.ownsRow base 82 2 v l.length (anC l)) (hn : l.length ≤ 1000000) :
    Calls Tryz.prog 56 #[v] w fun e w' => ∃ v', e = .returned v' ∧ w'.ownsRow w.heap.size 82 2 v' l.length (anC l) ∧ Below w.heap.size w w' := by
  obtain ⟨i0, hi, hz0, hz1, hz2⟩ := info_parts infoAn
  rcases hv.2 with ⟨rfl, h0⟩ | ⟨g, cap, cur, rfl, hb, hg, hc4, hc5, hc6, ht⟩
  · have hq : ∀ w, (binOp .eql 79 (.slice none 0 0) (.slice none 0 0)).run Tryz.prog w = .ok (.bool true) w := fun w => Lib.run_eql_slice_nil w 79 82 none 0 0 0 0 Tryz.underlying79
    have HV : Hid _ := hv.1
    go_enter Tryz.func56, Tryz.ntmps56
    go_wp2
    go_ret
    exact ⟨_, rfl, ⟨HV.out, Or.inl ⟨rfl, h0⟩⟩, Below.refl _ _⟩
  · have HB : Hid (Blk w g cur 82) := hg
    have HT : Hid (cur.toList.take (l.length * 2) = anC l) := ht
    clear hg ht hc4 hc5 hc6 hv
    have hq : ∀ w, (binOp .eql 79 (.slice (some ⟨g, 0, none⟩) l.length cap) (.slice none 0 0)).run Tryz.prog w = .ok (.bool false) w := fun w => Lib.run_eql_slice_nil w 79 82 (some ⟨g, 0, none⟩) l.length cap 0 0 Tryz.underlying79
    go_enter Tryz.func56, Tryz.ntmps56
    go_wp2_with (at_builtin; refine wpList_append_own _ rfl (.tmp 5) (.tmp 6) 79 rfl w.heap.size 82 i0 (.agg #[.int .i64 0, .string ⟨#[]⟩]) 2 24 Tryz.underlying79 hi hz0 hz1 hz2 rfl (by decide) _ 0 [] rfl (World.ownsRow_made w #[] 0 (Nat.le_refl _) (by decide) rfl) ⟨g, 0, none⟩ l.length cap (anC l) rfl (anC_len l) ?c1 ?c2 ?c3 ?c4 ?c5 ?_)
    case c1 =>
      intro j u hj
      have hjl : j < l.length * 2 := by have := (List.getElem?_eq_some_iff.1 hj).1; rw [anC_len] at this; exact this
      rw [addr_litC]
      rw [← HT.out, List.getElem?_take, if_pos hjl] at hj
      have hc := Blk.cell (w := w) (k := g) (o := j) (cs := cur) (t := 82) (v := u) HB.out (by simpa using hj)
      have hc2 := (((Below.refl w.heap.size w).alloc (Nat.le_refl _) (.cells #[] 82)).cell (p := ⟨g, j, none⟩) (Blk.lt HB.out)).trans hc
      simpa using hc2
    case c2 => exact fun u hu => List.all_eq_true.1 (anC_one l) u hu
    case c3 => unfold maxLen; omega
    case c4 => omega
    case c5 => simp
    intro v' w6 ho' hg' _
    have b6 : Below w.heap.size w w6 := below_grown ((Below.refl _ _).alloc (Nat.le_refl _) _) hg' (fun q hq => by simp [Value.ownBlock] at hq; omega) (by simp)
    have HS : Hid (w6.ownsRow w.heap.size 82 2 v' l.length (anC l)) := by
      first | exact ho' | simpa using ho'
    clear ho' hg'
    go_wp2
    go_ret
    exact ⟨v', rfl, HS.out, b6⟩
theorem answers_calls (w : World) (h : St w0 w p b x y T S q tm tc av C) (hl : C.ans.length ≤ 1000000) : Calls Tryz.prog 25 #[.pointer (some ⟨q, 0, none⟩)] w fun e w' => ∃ v, e = .returned v ∧ w'.ownsRow w.heap.size 82 2 v C.ans.length (anC C.ans) ∧ Below w.heap.size w w' := by
  have HM : Hid _ := madeC_calls w h
  have c10 : w.cell? ⟨q, 10, none⟩ = some av := h.blk.cell rfl
  obtain ⟨ab, an, ac, rfl⟩ : ∃ ab an ac, av = .slice ab an ac := by
    rcases h.row.2 with ⟨rfl, _⟩ | ⟨g, cap, cur, rfl, _⟩
    · exact ⟨_, _, _, rfl⟩
    · exact ⟨_, _, _, rfl⟩
  have HC : Hid _ := aclone_calls w0.heap.size (.slice ab an ac) C.ans w h.row hl
  go_enter Tryz.func25, Tryz.ntmps25
  go_wp2_with fail
  refine Calls.mono HM.out ?_
  rintro e w2 ⟨rfl, rfl⟩
  go_wp2_with fail
  refine Calls.mono HC.out ?_
  rintro e w3 ⟨v, rfl, ho, b3⟩
  go_wp2
  go_ret
  exact ⟨v, rfl, ho, b3⟩

/-- The law's 'around'. -/
def arn (n m : Int) : Int := if n.tmod m < 0 then 0 - n.tmod m else n.tmod m
theorem arn_range (n m : Int) (h : 1 ≤ m) : 0 ≤ arn n m ∧ arn n m < m := by
  unfold arn
  have h1 := Int.tmod_lt_of_pos n (show 0 < m by omega)
  have h2 : -m < n.tmod m := by
    have := Int.lt_tmod_of_pos n (show 0 < m by omega)
    omega
  split <;> omega
theorem around_calls (n m : Int) (w : World) (h : 1 ≤ m) (hm : m ≤ 1000000) : Calls Tryz.prog 11 #[.int .i64 n, .int .i64 m] w fun e w' => e = .returned (.int .i64 (arn n m)) ∧ w' = w := by
  have h1 := Int.tmod_lt_of_pos n (show 0 < m by omega)
  have h2 : -m < n.tmod m := by
    have := Int.lt_tmod_of_pos n (show 0 < m by omega)
    omega
  have e0 : ¬ m = 0 := by omega
  have e00 : (m == 0) = false := by simpa using e0
  have e1 : IntKind.i64.wrap (n.tmod m) = n.tmod m := wrapC (by omega) (by omega)
  have e2 : IntKind.i64.wrap (0 - n.tmod m) = 0 - n.tmod m := wrapC (by omega) (by omega)
  have e3 : IntKind.i64.wrap (-n.tmod m) = -n.tmod m := wrapC (by omega) (by omega)
  by_cases hn : n.tmod m < 0
  · have hd : decide (n.tmod m < 0) = true := decide_eq_true hn
    have HR : Hid (arn n m = 0 - n.tmod m) := by show _ = _; unfold arn; rw [if_pos hn]
    go_enter Tryz.func11, Tryz.ntmps11
    go_wp2
    go_ret
    exact ⟨by rw [HR.out]; simp, rfl⟩
  · have hd : decide (n.tmod m < 0) = false := decide_eq_false hn
    have HR : Hid (arn n m = n.tmod m) := by show _ = _; unfold arn; rw [if_neg hn]
    go_enter Tryz.func11, Tryz.ntmps11
    go_wp2
    go_ret
    exact ⟨by rw [HR.out]; rfl, rfl⟩
theorem config_results {w' : World} {c0 c1 c2 c3 : Value} {r : Nat} (X : Blk w' r #[c0, c1, c2, c3] 28) {t : Array Value} (h1 : t.getD 2 undef = .pointer (some ⟨r, 0, none⟩)) :
    (results Tryz.f6 t).run Tryz.prog w' = .ok (.agg #[c0, c1, c2, c3]) w' := by
  have a0 := X.cell (o := 0) rfl
  have a1 := X.cell (o := 1) rfl
  have a2 := X.cell (o := 2) rfl
  have a3 := X.cell (o := 3) rfl
  simp only [Array.getD_eq_getD_getElem?] at h1
  simp [results, Tryz.results6, go_sem, h1, a0, a1, a2, a3]
set_option maxRecDepth 100000 in
theorem config_calls (n : Int) (w : World) : Calls Tryz.prog 6 #[.int .i64 n] w fun e w' => e = .returned (.agg #[.int .i64 (1 + arn n 4), .int .i64 3, .int .i64 2, .int .i64 5]) ∧ Below w.heap.size w w' := by
  have hr := arn_range n 4 (by omega)
  have HA : Hid _ := fun wx => around_calls n 4 wx (by omega) (by omega)
  obtain ⟨W1, hW1, X1, B1⟩ : ∃ W1, w.alloc (.cells #[.int .i64 0, .int .i64 0, .int .i64 0, .int .i64 0] 28) = W1 ∧ Blk W1 w.heap.size #[.int .i64 0, .int .i64 0, .int .i64 0, .int .i64 0] 28 ∧ Below w.heap.size w W1 :=
    ⟨_, rfl, blk_new _ _ _ _ rfl, by go_grown⟩
  generalize arn n 4 = a at *
  have e1 : IntKind.i64.wrap (1 + a) = 1 + a := wrapC (by omega) (by omega)
  obtain ⟨W2, hW2, X2, _⟩ := setRow_named X1 #[.int .i64 (1 + a), .int .i64 3, .int .i64 2, .int .i64 5]
  have hGi : (Tryz.prog.info? 28).map (·.size) = some (#[.int .i64 (1 + a), .int .i64 3, .int .i64 2, .int .i64 5] : Array Value).size := by kernel_rfl
  have hs : (#[.int .i64 0, .int .i64 0, .int .i64 0, .int .i64 0] : Array Value).size = (#[.int .i64 (1 + a), .int .i64 3, .int .i64 2, .int .i64 5] : Array Value).size := rfl
  have ho : (#[.int .i64 (1 + a), .int .i64 3, .int .i64 2, .int .i64 5] : Array Value).all (·.oneCell') = true := by simp [Value.oneCell']
  go_enter Tryz.func6, Tryz.ntmps6
  go_wp2_with fail
  refine (HA.out _).mono ?_
  rintro e w2 ⟨rfl, rfl⟩
  go_wp2_with ((with_reducible refine st_row (ty := 28) X1 hGi hs ho hW2 ?_ ?_ ?_); rfl; rfl)
  refine bodyPost_ret (v := .agg #[.int .i64 (1 + a), .int .i64 3, .int .i64 2, .int .i64 5]) (config_results X2 rfl) rfl ?_
  exact ⟨rfl, below_row B1 hW2 (Nat.le_refl _)⟩

set_option maxHeartbeats 2000000 in
set_option maxRecDepth 100000 in
theorem reply_calls (who c st : Int) (t : ByteArray) (w : World) (h : Book w p b x y T S) (hS : S.length < 1000000) (hw : isSg who = true) (hc : 0 ≤ c ∧ c ≤ 15) (hs : 1 ≤ st ∧ st ≤ 1099511627776) (ht : t.size ≤ 256) :
    Calls Tryz.prog 24 #[.pointer (some ⟨p, 0, none⟩), .int .i64 who, .int .i64 c, .int .i64 st, .string t] w fun e w' => e = .returned (.string ⟨(sgB (sgM S who (smB 10 c st t))).toArray⟩) ∧ Book w' p b x y T (note S (who, byS (smB 10 c st t))) ∧ Off2 x y w w' := by
  have he := reply_right c st t hc hs ht
  have hok := sgM_ok S who (smB 10 c st t) hw
  have hR : sealR S who (smB 10 c st t) = (sgM S who (smB 10 c st t), 0) := by unfold sealR; rw [if_pos he, hw]; rfl
  have hRS : sealS S who (smB 10 c st t) = note S (who, byS (smB 10 c st t)) := by unfold sealS signS; rw [if_pos he, hw]; rfl
  have HSe : Hid _ := seal_calls who (smB 10 c st t) none 0 0 w h hS (show (⟨#[]⟩ : ByteArray).size ≤ maxLen by decide) (by unfold smB maxLen; show t.size ≤ _; omega) (show ([] : List Sg).length < _ by decide) (Or.inl ⟨⟨none, 0, rfl⟩, rfl⟩)
  rw [hR, hRS] at HSe
  obtain ⟨M, hM⟩ : ∃ M, sgM S who (smB 10 c st t) = M := ⟨_, rfl⟩
  obtain ⟨S', hS'⟩ : ∃ S', note S (who, byS (smB 10 c st t)) = S' := ⟨_, rfl⟩
  rw [hM] at HSe hok ⊢
  rw [hS'] at HSe ⊢
  have HO : Hid _ := fun wx => one_ref M wx hok
  have HGs : Hid ((Tryz.prog.info? 49).map (·.size) = some (#[.int .i64 M.frm, .string M.body, .string M.sig] : Array Value).size) := infoSg3
  unfold Sg.val at HSe HO
  unfold smB Bd.val at HSe
  clear hR hRS hM hS' he hok
  go_enter Tryz.func24, Tryz.ntmps24
  go_wp2_with fail
  refine Calls.mono HSe.out ?_
  rintro e w2 ⟨rfl, K2, o2⟩
  obtain ⟨W3, hW3, M3, B3⟩ : ∃ W3, w2.alloc (.cells #[.int .i64 M.frm, .string M.body, .string M.sig] 49) = W3 ∧ Blk W3 w2.heap.size #[.int .i64 M.frm, .string M.body, .string M.sig] 49 ∧ Below w2.heap.size w2 W3 := ⟨_, rfl, blk_new _ _ _ _ rfl, by go_grown⟩
  go_wp2_with ((with_reducible refine rd_row (ty := 49) M3 Tryz.underlying49 rfl HGs.out ?_ ?_); rfl)
  refine Calls.mono (HO.out _) ?_
  rintro e w4 ⟨rfl, b4⟩
  go_wp2
  go_ret
  exact ⟨rfl, K2.below (chainC B3 b4), o2.trans (Off2.of_below (chainC B3 b4))⟩
end Go.Proofs.YtocphdikppeijaaGreat

namespace Go.Proofs.YtocphdikppeijaaGreat
open Go.RowKit
set_option linter.unusedSimpArgs false
set_option linter.unusedVariables false

variable {p b x y : Nat} {T : List ByteArray} {S : List (Int × ByteArray)} {q tm tc : Nat} {av : Value} {C : Cs} {w0 : World}
/-- Is a reply taken? -/
def Cs.takes (C : Cs) (who c st : Int) : Bool := C.waits && decide (who < 3 * C.cf + 1 ∧ (c = C.id ∧ st = C.stamp) ∧ rgot C.told who = false)
def Cs.hears (C : Cs) (who c st : Int) (t : ByteArray) : Cs := if C.takes who c st = true then C.hear (some (who, t)) else C
/-- What is true of every client: replies are of unlike replicas. -/
structure CInv (C : Cs) : Prop where
  keys : (C.told.map fun z => z.1.toNat).Nodup
  rng : ∀ z ∈ C.told, 0 ≤ z.1 ∧ z.1 < 3 * C.cf + 1
  cf : 1 ≤ C.cf ∧ C.cf ≤ 4
theorem CInv.len (h : CInv C) : C.told.length ≤ 13 := by
  have h1 := nodup_short (m := 13) h.keys (fun i hi => by
    obtain ⟨z, hz, rfl⟩ := List.mem_map.1 hi
    have := h.rng z hz
    have := h.cf
    omega)
  simpa using h1
theorem rgot_false {l : Rps} {k : Int} (h : rgot l k = false) : ∀ z ∈ l, z.1 ≠ k := fun z hz e => by
  unfold rgot at h
  rw [List.any_eq_false] at h
  exact h z hz (by simp [e])
theorem CInv.hears (h : CInv C) (who c st : Int) (t : ByteArray) (hw : 0 ≤ who) : CInv (C.hears who c st t) := by
  unfold Cs.hears
  split
  · rename_i ht
    unfold Cs.takes at ht
    simp only [Bool.and_eq_true, decide_eq_true_eq] at ht
    have hg := rgot_false ht.2.2.2
    unfold Cs.hear
    simp only []
    split
    · exact ⟨by simp, fun z hz => by simp at hz, h.cf⟩
    · refine ⟨?_, ?_, h.cf⟩
      · simp only [List.map_append, List.map_cons, List.map_nil]
        rw [List.nodup_append]
        refine ⟨h.keys, by simp, fun a ha d hd e => ?_⟩
        obtain ⟨z, hz, rfl⟩ := List.mem_map.1 ha
        simp at hd
        have h1 := hg z hz
        have h2 := h.rng z hz
        omega
      · intro z hz
        rcases List.mem_append.1 hz with h1 | h1
        · exact h.rng z h1
        · simp at h1
          subst h1
          exact ⟨hw, ht.2.1⟩
  · exact h
theorem hear_ans (C : Cs) (o : Option (Int × ByteArray)) : (C.hear o).ans.length ≤ C.ans.length + 1 := by
  cases o with
  | none => simp [Cs.hear]
  | some z => unfold Cs.hear; simp only []; split <;> simp
theorem hears_ans (C : Cs) (who c st : Int) (t : ByteArray) : (C.hears who c st t).ans.length ≤ C.ans.length + 1 := by
  unfold Cs.hears
  split
  · exact hear_ans _ _
  · omega
theorem sgB_small (S : List (Int × ByteArray)) (who : Int) (d : Bd) (hw : isSg who = true) : (⟨(sgB (sgM S who d)).toArray⟩ : ByteArray).size ≤ maxLen := by
  have := sgB_len (sgM S who d) (sgM_ok S who d hw)
  rw [arr_size]
  unfold maxLen
  omega
set_option maxRecDepth 100000 in
theorem rcv_reply (who c st : Int) (t : ByteArray) (w : World) (h : St w0 w p b x y T (note S (who, byS (smB 10 c st t))) q tm tc av C) (hS : S.length < 900000) (hw : isSg who = true) (hc : 0 ≤ c ∧ c ≤ 15) (hs : 1 ≤ st ∧ st ≤ 1099511627776) (ht : t.size ≤ 256) (hI : CInv C) (ha : C.ans.length < 100000) :
    Calls Tryz.prog 23 #[.pointer (some ⟨q, 0, none⟩), .string ⟨(sgB (sgM S who (smB 10 c st t))).toArray⟩] w fun e w' => e = .returned (.bool (C.takes who c st)) ∧ ∃ tc' av', St w0 w' p b x y T (note S (who, byS (smB 10 c st t))) q tm tc' av' (C.hears who c st t) ∧ Kpt av w w' ∧ Frs av av' w := by
  have hl := hI.len
  have hcf := hI.cf
  have hn := note_len S (who, byS (smB 10 c st t))
  cases hwt : C.waits with
  | false =>
    have e1 : C.takes who c st = false := by unfold Cs.takes; rw [hwt]; rfl
    have e2 : C.hears who c st t = C := by unfold Cs.hears; rw [e1]; rfl
    rw [e1, e2]
    refine (receive_idle _ w h hwt).mono ?_
    rintro e w2 ⟨rfl, rfl⟩
    exact ⟨rfl, tc, av, h, Kpt.refl _, Or.inl rfl⟩
  | true =>
    have e0 := heard_reply C S who c st t hw hc hs ht
    have hr := receive_waits ⟨(sgB (sgM S who (smB 10 c st t))).toArray⟩ w h (by omega) (sgB_small S who (smB 10 c st t) hw) (by omega) (by omega) ha hwt
    rw [e0] at hr
    by_cases hk : who < 3 * C.cf + 1 ∧ (c = C.id ∧ st = C.stamp) ∧ rgot C.told who = false
    · have e1 : C.takes who c st = true := by unfold Cs.takes; rw [hwt]; simpa using hk
      have e2 : C.hears who c st t = C.hear (some (who, t)) := by unfold Cs.hears; rw [e1]; rfl
      rw [if_pos hk] at hr
      rw [e1, e2]
      exact hr
    · have e1 : C.takes who c st = false := by unfold Cs.takes; rw [decide_eq_false hk]; simp
      have e2 : C.hears who c st t = C := by unfold Cs.hears; rw [e1]; rfl
      rw [if_neg hk] at hr
      rw [e1, e2]
      exact hr
theorem sgB_full (m : Sg) : ¬ (⟨(sgB m).toArray⟩ : ByteArray) = ⟨#[]⟩ := fun h => by
  have h1 : (sgB m).toArray = #[] := congrArg ByteArray.data h
  have h2 : sgB m = [] := by simpa using h1
  unfold sgB enc encF at h2
  split at h2 <;> simp at h2
def exOp : ByteArray := ⟨#[111, 112]⟩
def exR : ByteArray := ⟨#[114]⟩
def exLie : ByteArray := ⟨#[108, 105, 101]⟩
def ex0 (s : ByteArray) : Cs := ⟨1, 3, 2, 5, 1, 1, s, 0, [], []⟩
def ex1 (s : ByteArray) : Cs := ⟨1, 3, 2, 5, 1, 1, s, 0, [(0, exR)], []⟩
def ex2 (s : ByteArray) : Cs := ⟨1, 3, 2, 5, 1, 1, s, 0, [(0, exR), (1, exLie)], []⟩
def ex3 : Cs := ⟨1, 3, 2, 5, 1, 1, ⟨#[]⟩, 0, [], [(1, exR)]⟩
theorem ex_waits (s : ByteArray) (h : ¬ s = ⟨#[]⟩) : (ex0 s).waits = true ∧ (ex1 s).waits = true ∧ (ex2 s).waits = true := by
  refine ⟨?_, ?_, ?_⟩ <;> (unfold Cs.waits; exact decide_eq_true h)
theorem ex_t0 (s : ByteArray) (h : ¬ s = ⟨#[]⟩) : (ex0 s).takes 0 1 1 = true := by
  unfold Cs.takes; rw [(ex_waits s h).1]; rfl
theorem ex_t1 (s : ByteArray) (h : ¬ s = ⟨#[]⟩) : (ex1 s).takes 0 1 1 = false := by
  unfold Cs.takes; rw [(ex_waits s h).2.1]; rfl
theorem ex_t2 (s : ByteArray) (h : ¬ s = ⟨#[]⟩) : (ex1 s).takes 1 1 1 = true := by
  unfold Cs.takes; rw [(ex_waits s h).2.1]; rfl
theorem ex_t3 (s : ByteArray) (h : ¬ s = ⟨#[]⟩) : (ex2 s).takes 2 1 1 = true := by
  unfold Cs.takes; rw [(ex_waits s h).2.2]; rfl
theorem ex_h0 (s : ByteArray) (h : ¬ s = ⟨#[]⟩) : (ex0 s).hears 0 1 1 exR = ex1 s := by
  unfold Cs.hears; rw [ex_t0 s h, if_pos rfl, hear_no]
  · rfl
  · show ¬ (1 : Int) < (alk [(0, exR)] exR : Int)
    decide +kernel
theorem ex_h1 (s : ByteArray) (h : ¬ s = ⟨#[]⟩) : (ex1 s).hears 0 1 1 exR = ex1 s := by
  unfold Cs.hears; rw [ex_t1 s h]; rfl
theorem ex_h2 (s : ByteArray) (h : ¬ s = ⟨#[]⟩) : (ex1 s).hears 1 1 1 exLie = ex2 s := by
  unfold Cs.hears; rw [ex_t2 s h, if_pos rfl, hear_no]
  · rfl
  · show ¬ (1 : Int) < (alk [(0, exR), (1, exLie)] exLie : Int)
    decide +kernel
theorem ex_h3 (s : ByteArray) (h : ¬ s = ⟨#[]⟩) : (ex2 s).hears 2 1 1 exR = ex3 := by
  unfold Cs.hears; rw [ex_t3 s h, if_pos rfl, hear_yes]
  · rfl
  · show (1 : Int) < (alk [(0, exR), (1, exLie), (2, exR)] exR : Int)
    decide +kernel
theorem ex_i0 (s : ByteArray) : CInv (ex0 s) := ⟨by simp [ex0], fun z hz => by simp [ex0] at hz, by simp [ex0]⟩
theorem ex_i1 (s : ByteArray) : CInv (ex1 s) := ⟨by simp [ex1], fun z hz => by simp [ex1] at hz; subst hz; simp [ex1], by simp [ex1]⟩
theorem ex_i2 (s : ByteArray) : CInv (ex2 s) := ⟨by simp [ex2], fun z hz => by simp [ex2] at hz; rcases hz with rfl | rfl <;> simp [ex2], by simp [ex2]⟩

/-- The struct '==' of answers. -/
theorem fields_answer : (Tryz.prog.fieldsOf 82).toList.map (fun f => (f.name, f.type, f.offset)) = [("Stamp", 3, 0), ("Text", 9, 1)] := by kernel_rfl
theorem eq_answerI (w : World) (p0 q0 : Int) (p1 q1 : ByteArray) : (Op.equal 82 (.agg #[.int .i64 p0, .string p1]) (.agg #[.int .i64 q0, .string q1])).run Tryz.prog w = .ok (decide (p0 = q0) && decide (p1 = q1)) w := by
  have h1 : (Op.equal 82 (.agg #[.int .i64 p0, .string p1]) (.agg #[.int .i64 q0, .string q1])).run Tryz.prog w = (Op.eqFields 9999 #[.int .i64 p0, .string p1] #[.int .i64 q0, .string q1] (Tryz.prog.fieldsOf 82).toList).run Tryz.prog w :=
    run_equalIn_agg w 9999 82 _ _ (by kernel_rfl) (by kernel_rfl)
  rw [h1]
  have hf := fields_answer
  generalize (Tryz.prog.fieldsOf 82).toList = l at hf
  cases l with
  | nil => simp at hf
  | cons f l =>
    cases l with
    | nil => simp at hf
    | cons g l =>
      cases l with
      | cons _ _ => simp at hf
      | nil =>
        simp only [List.map_cons, List.map_nil, List.cons.injEq, Prod.mk.injEq, and_true] at hf
        obtain ⟨⟨a1, a2, a3⟩, b1, b2, b3⟩ := hf
        have q : (Op.equalIn 9999 3 (.int .i64 p0) (.int .i64 q0)).run Tryz.prog w = .ok (p0 == q0) w := run_equalIn_int (P := Tryz.prog) w 9998 3 .i64 .i64 p0 q0 Tryz.underlying3
        have r : (Op.equalIn 9999 9 (.string p1) (.string q1)).run Tryz.prog w = .ok (p1.toList == q1.toList) w := run_equalIn_string (P := Tryz.prog) w 9998 9 p1 q1 Tryz.underlying9
        have x0 : ∀ (a : Int) (b : ByteArray), (part 3 #[.int .i64 a, .string b] 0).run Tryz.prog w = .ok (.int .i64 a) w := fun a b => run_part_plain w (by kernel_rfl) rfl
        have x1 : ∀ (a : Int) (b : ByteArray), (part 9 #[.int .i64 a, .string b] 1).run Tryz.prog w = .ok (.string b) w := fun a b => run_part_plain w (by kernel_rfl) rfl
        simp only [Op.eqFields, a1, a2, a3, b1, b2, b3, Sem.run_bind, Sem.run_ite, x0, x1, Result.andThen_ok, q, r, Sem.run_pure, strEq]
        by_cases e1 : p0 = q0 <;> by_cases e2 : p1 = q1 <;> simp [e1, e2]
theorem eq_answer (w : World) (p0 q0 : Int) (p1 q1 : ByteArray) : (binOp .eql 82 (.agg #[.int .i64 p0, .string p1]) (.agg #[.int .i64 q0, .string q1])).run Tryz.prog w = .ok (.bool (decide (p0 = q0) && decide (p1 = q1))) w := by
  simp only [binOp]
  simp [eq_answerI w p0 q0 p1 q1]
set_option maxHeartbeats 4000000 in
set_option maxRecDepth 100000 in
theorem awake_calls (w : World) : Calls Tryz.prog 8 #[] w fun e w' => e = .returned (.bool true) ∧ Below w.heap.size w w' := by
  have HNB : Hid _ := newBook_calls w
  have HCf : Hid _ := fun wx => config_calls 0 wx
  rw [show (1 : Int) + arn 0 4 = 1 from by decide] at HCf
  go_enter Tryz.func8, Tryz.ntmps8
  go_wp2_with fail
  refine Calls.mono HNB.out ?_
  rintro e w1 ⟨p, b, x, y, rfl, K1, b1, hp, hb, hx, hy⟩
  go_wp2_with fail
  refine (HCf.out _).mono ?_
  rintro e w2 ⟨rfl, b2⟩
  have HNw : Hid _ := new_ok 1 3 2 5 1 w w2 (chainC b1 b2) ⟨hp, hb, hx, hy⟩ (K1.below b2) (by decide) (by decide) (by decide) (by decide)
  go_wp2_with fail
  refine Calls.mono HNw.out ?_
  rintro e w3 ⟨q, tm, rfl, H3, b3⟩
  have HRq : Hid _ := request_ok exOp w3 H3 (by decide) 1 rfl (by decide) (by simp [cs0]) (by simp [cs0]) (by decide) rfl
  generalize hs : (⟨(sgB (sgM [] (100 + (cs0 1 3 2 5 1).id) (smB 1 (cs0 1 3 2 5 1).id ((cs0 1 3 2 5 1).stamp + 1) exOp))).toArray⟩ : ByteArray) = s at HRq
  have hsn : ¬ s = ⟨#[]⟩ := by rw [← hs]; exact sgB_full _
  have hsl := note_len ([] : List (Int × ByteArray)) (100 + (cs0 1 3 2 5 1).id, byS (smB 1 (cs0 1 3 2 5 1).id ((cs0 1 3 2 5 1).stamp + 1) exOp))
  generalize note ([] : List (Int × ByteArray)) (100 + (cs0 1 3 2 5 1).id, byS (smB 1 (cs0 1 3 2 5 1).id ((cs0 1 3 2 5 1).stamp + 1) exOp)) = S1 at HRq hsl
  have HSN : Hid _ := hsn
  have HL1 : Hid (S1.length ≤ 1) := hsl
  clear hs hsl hsn HNB HCf HNw
  go_wp2_with fail
  refine Calls.mono HRq.out ?_
  rintro e w4 ⟨v, rfl, ⟨g, rfl, cs, X4, hc⟩, H4, k4⟩
  have H4' : St w w4 p b x y [] S1 q tm 0 (.slice none 0 0) (ex0 s) := H4
  have g3 : w4.cell? ⟨g, 6, none⟩ = some (.int .i64 3) := X4.cell (hc 3 (by decide)).1
  have HWa : Hid _ := waits_calls w4 H4'
  rw [(ex_waits s HSN.out).1] at HWa
  clear H4 hc
  go_wp2_with fail
  refine Calls.mono HWa.out ?_
  rintro e w4 ⟨rfl, rfl⟩
  have HR0 : Hid _ := reply_calls 0 1 1 exR w4 H4'.book (by have := HL1.out; omega) (by decide) (by decide) (by decide) (by decide)
  clear HWa HRq g3
  go_wp2_with fail
  refine Calls.mono HR0.out ?_
  rintro e w5 ⟨rfl, K5, o5⟩
  have H5 := H4'.off2 K5 o5
  have HV0 : Hid _ := rcv_reply 0 1 1 exR w5 H5 (by have := HL1.out; omega) (by decide) (by decide) (by decide) (by decide) (ex_i0 s) (by simp [ex0])
  rw [ex_t0 s HSN.out, ex_h0 s HSN.out] at HV0
  have hl2 := note_len S1 (0, byS (smB 10 1 1 exR))
  generalize note S1 (0, byS (smB 10 1 1 exR)) = S2 at *
  have HL2 : Hid (S2.length ≤ 2) := by show _ ≤ _; have := HL1.out; omega
  clear hl2 HR0 K5 o5 H4'
  go_wp2_with fail
  refine Calls.mono HV0.out ?_
  rintro e w6 ⟨rfl, tc6, av6, H6, k6⟩
  have HR1 : Hid _ := reply_calls 0 1 1 exR w6 H6.book (by have := HL2.out; omega) (by decide) (by decide) (by decide) (by decide)
  clear HV0 H5
  go_wp2_with fail
  refine Calls.mono HR1.out ?_
  rintro e w7 ⟨rfl, K7, o7⟩
  have H7 := H6.off2 K7 o7
  have HV1 : Hid _ := rcv_reply 0 1 1 exR w7 H7 (by have := HL2.out; omega) (by decide) (by decide) (by decide) (by decide) (ex_i1 s) (by simp [ex1])
  rw [ex_t1 s HSN.out, ex_h1 s HSN.out] at HV1
  have hl3 := note_len S2 (0, byS (smB 10 1 1 exR))
  generalize note S2 (0, byS (smB 10 1 1 exR)) = S3 at *
  have HL3 : Hid (S3.length ≤ 3) := by show _ ≤ _; have := HL2.out; omega
  clear hl3 HR1 K7 o7 H6
  go_wp2_with fail
  refine Calls.mono HV1.out ?_
  rintro e w8 ⟨rfl, tc8, av8, H8, k8⟩
  have HR2 : Hid _ := reply_calls 1 1 1 exLie w8 H8.book (by have := HL3.out; omega) (by decide) (by decide) (by decide) (by decide)
  clear HV1 H7
  go_wp2_with fail
  refine Calls.mono HR2.out ?_
  rintro e w9 ⟨rfl, K9, o9⟩
  have H9 := H8.off2 K9 o9
  have HV2 : Hid _ := rcv_reply 1 1 1 exLie w9 H9 (by have := HL3.out; omega) (by decide) (by decide) (by decide) (by decide) (ex_i1 s) (by simp [ex1])
  rw [ex_t2 s HSN.out, ex_h2 s HSN.out] at HV2
  have hl4 := note_len S3 (1, byS (smB 10 1 1 exLie))
  generalize note S3 (1, byS (smB 10 1 1 exLie)) = S4 at *
  have HL4 : Hid (S4.length ≤ 4) := by show _ ≤ _; have := HL3.out; omega
  clear hl4 HR2 K9 o9 H8
  go_wp2_with fail
  refine Calls.mono HV2.out ?_
  rintro e w10 ⟨rfl, tc10, av10, H10, k10⟩
  have HW2 : Hid _ := waits_calls w10 H10
  rw [(ex_waits s HSN.out).2.2] at HW2
  clear HV2 H9
  go_wp2_with fail
  refine Calls.mono HW2.out ?_
  rintro e w10 ⟨rfl, rfl⟩
  have HR3 : Hid _ := reply_calls 2 1 1 exR w10 H10.book (by have := HL4.out; omega) (by decide) (by decide) (by decide) (by decide)
  clear HW2
  go_wp2_with fail
  refine Calls.mono HR3.out ?_
  rintro e w11 ⟨rfl, K11, o11⟩
  have H11 := H10.off2 K11 o11
  have HV3 : Hid _ := rcv_reply 2 1 1 exR w11 H11 (by have := HL4.out; omega) (by decide) (by decide) (by decide) (by decide) (ex_i2 s) (by simp [ex2])
  rw [ex_t3 s HSN.out, ex_h3 s HSN.out] at HV3
  clear HR3 K11 o11 H10
  go_wp2_with fail
  refine Calls.mono HV3.out ?_
  rintro e w12 ⟨rfl, tc12, av12, H12, k12⟩
  have HA : Hid _ := answers_calls w12 H12 (by simp [ex3])
  clear HV3 H11
  go_wp2_with fail
  refine Calls.mono HA.out ?_
  rintro e w13 ⟨v13, rfl, ho, b13⟩
  have H13 := H12.keep b13
  have hlen : ex3.ans.length = 1 := rfl
  rw [hlen] at ho
  obtain ⟨g13, cap13, rfl, hg13, hcap, hcell⟩ := own_at ho (by decide)
  have r0 : w13.cell? ⟨g13, 0, none⟩ = some (.int .i64 1) := hcell 0 _ rfl
  have r1 : w13.cell? ⟨g13, 1, none⟩ = some (.string exR) := hcell 1 _ rfl
  have HW3 : Hid _ := waits_calls w13 H13
  rw [show ex3.waits = false from by decide +kernel] at HW3
  have heq : ∀ wx, (binOp .eql 82 (.agg #[.int .i64 1, .string exR]) (.agg #[.int .i64 1, .string ⟨#[114]⟩])).run Tryz.prog wx = .ok (.bool true) wx := fun wx => by
    rw [eq_answer]
    rfl
  have HB : Hid _ := H13.below
  clear hcell ho HA H12
  go_wp2_with fail
  refine Calls.mono HW3.out ?_
  rintro e w13 ⟨rfl, rfl⟩
  go_wp2
  go_ret
  exact ⟨rfl, HB.out⟩
end Go.Proofs.YtocphdikppeijaaGreat
