/- The messages of a map of votes that make a claim, by rising senders; a quorum of them. -/
import Derived.Test.YtjpmnmgnbpecjaaVlS
import Derived.Test.YtjpmnmgnbpecjaaShLs
import Derived.ChangeKeysEq
import Derived.Laws.StructEq
namespace Go.Proofs.Ytjpmnmgnbpecjaa
open Go.Shelf Go.RowKit Go.Lib Go.Sort
open Go.ChangeMaps (setBlock)
set_option linter.unusedSimpArgs false
set_option linter.unusedVariables false

theorem own_form {w : World} {base : Nat} {e : TypeId} {sz : Nat} {v : Value} {n : Nat} {xs : List Value} (h : w.ownsRow base e sz v n xs) : ∃ p cap, v = .slice p n cap := by
  rcases h.2 with ⟨h1, h2⟩ | ⟨g, cap, cur, h1, _⟩
  · exact ⟨none, 0, by rw [h1, h2]⟩
  · exact ⟨_, cap, h1⟩
theorem own_base {w : World} {b b' : Nat} {e : TypeId} {sz : Nat} {v : Value} {n : Nat} {xs : List Value} (ho : w.ownsRow b e sz v n xs) (h : b' ≤ b) : w.ownsRow b' e sz v n xs := by
  refine ⟨ho.1, ?_⟩
  rcases ho.2 with h1 | ⟨g, cap, cur, h1, h2, h3⟩
  · exact Or.inl h1
  · exact Or.inr ⟨g, cap, cur, h1, by omega, h3⟩
theorem own_keep {w w' : World} {b : Nat} {e : TypeId} {sz : Nat} {v : Value} {n : Nat} {xs : List Value} (h : w.ownsRow b e sz v n xs) (hk : ∀ g, v.ownBlock = some g → w'.heap[g]? = w.heap[g]?) : w'.ownsRow b e sz v n xs := by
  refine ⟨h.1, ?_⟩
  rcases h.2 with h1 | ⟨g, cap, cur, rfl, h2, h3, h4⟩
  · exact Or.inl h1
  · exact Or.inr ⟨g, cap, cur, rfl, h2, (hk g rfl).trans h3, h4⟩
theorem ownB {w w' : World} {b : Nat} {e : TypeId} {sz : Nat} {v : Value} {n : Nat} {xs : List Value} (h : w.ownsRow b e sz v n xs) (hb : Below w.heap.size w w') : w'.ownsRow b e sz v n xs :=
  own_keep h fun g hg => hb.block g (h.lt g hg).2

theorem fields_claim : (Try.prog.fieldsOf 59).toList.map (fun f => (f.name, f.type, f.offset)) = [("seq", 3, 0), ("digest", 9, 1)] := by kernel_rfl
theorem strEq (a b : ByteArray) : (a.toList == b.toList) = decide (a = b) := by
  rw [← beq_toListBytes]
  by_cases h : a = b
  · rw [(MapKept.bytes_beq a b).2 h, decide_eq_true h]
  · rw [Bool.eq_false_iff.2 fun e => h ((MapKept.bytes_beq a b).1 e), decide_eq_false h]
theorem eq_claimI (w : World) (p0 q0 : Int) (p1 q1 : ByteArray) : (Op.equal 59 (.agg #[.int .i64 p0, .string p1]) (.agg #[.int .i64 q0, .string q1])).run Try.prog w = .ok (decide (p0 = q0) && decide (p1 = q1)) w := by
  have h1 : (Op.equal 59 (.agg #[.int .i64 p0, .string p1]) (.agg #[.int .i64 q0, .string q1])).run Try.prog w = (Op.eqFields 9999 #[.int .i64 p0, .string p1] #[.int .i64 q0, .string q1] (Try.prog.fieldsOf 59).toList).run Try.prog w :=
    run_equalIn_agg w 9999 59 _ _ (by kernel_rfl) (by kernel_rfl)
  rw [h1]
  have hf := fields_claim
  generalize (Try.prog.fieldsOf 59).toList = l at hf
  cases l with
  | nil => simp at hf
  | cons f l =>
    cases l with
    | nil => simp at hf
    | cons g l =>
      cases l with
      | cons _ _ => simp at hf
      | nil =>
        simp only [List.map_cons, List.map_nil, List.cons.injEq, Prod.mk.injEq, and_true] at hf
        obtain ⟨⟨a1, a2, a3⟩, b1, b2, b3⟩ := hf
        have q : (Op.equalIn 9999 3 (.int .i64 p0) (.int .i64 q0)).run Try.prog w = .ok (p0 == q0) w := run_equalIn_int (P := Try.prog) w 9998 3 .i64 .i64 p0 q0 Try.underlying3
        have r : (Op.equalIn 9999 9 (.string p1) (.string q1)).run Try.prog w = .ok (p1.toList == q1.toList) w := run_equalIn_string (P := Try.prog) w 9998 9 p1 q1 Try.underlying9
        have x0 : ∀ (a : Int) (b : ByteArray), (part 3 #[.int .i64 a, .string b] 0).run Try.prog w = .ok (.int .i64 a) w := fun a b => run_part_plain w (by kernel_rfl) rfl
        have x1 : ∀ (a : Int) (b : ByteArray), (part 9 #[.int .i64 a, .string b] 1).run Try.prog w = .ok (.string b) w := fun a b => run_part_plain w (by kernel_rfl) rfl
        simp only [Op.eqFields, a1, a2, a3, b1, b2, b3, Sem.run_bind, Sem.run_ite, x0, x1, Result.andThen_ok, q, r, Sem.run_pure, strEq]
        by_cases e1 : p0 = q0 <;> by_cases e2 : p1 = q1 <;> simp [e1, e2]
theorem eq_claim (w : World) (p0 q0 : Int) (p1 q1 : ByteArray) : (binOp .eql 59 (.agg #[.int .i64 p0, .string p1]) (.agg #[.int .i64 q0, .string q1])).run Try.prog w = .ok (.bool (decide (p0 = q0) && decide (p1 = q1))) w := by
  simp only [binOp]
  simp [eq_claimI w p0 q0 p1 q1]

set_option maxHeartbeats 4000000 in
set_option maxRecDepth 100000 in
theorem insNil_calls (fv : Value) (w : World) : Calls Try.prog 56 #[.slice none 0 0, .int .i64 0, .int .i64 0, fv] w fun e w' => e = .returned (.tuple #[]) ∧ w' = w := by
  go_enter Try.func56, Try.ntmps56
  go_wp2
  refine wp_loop_rounds 1 ?_
  rw [rounds_succ]
  go_wp2
  go_end0
  exact ⟨rfl, rfl⟩
set_option maxHeartbeats 4000000 in
set_option maxRecDepth 100000 in
theorem pdqNil_calls (lim : Int) (fv : Value) (w : World) : Calls Try.prog 53 #[.slice none 0 0, .int .i64 0, .int .i64 0, .int .i64 lim, fv] w fun e w' => e = .returned (.tuple #[]) ∧ w' = w := by
  have h := fun w => insNil_calls fv w
  go_enter Try.func53, Try.ntmps53
  go_wp2
  refine wp_loop_rounds 1 ?_
  rw [rounds_succ]
  go_wp2_with fail
  refine (h _).mono ?_
  rintro e w1 ⟨rfl, rfl⟩
  go_wp2
  (try simp only [Exit.inBlock, Exit.then]); refine bodyPost_ret (results_none rfl _ _ _) rfl ?_
  exact ⟨rfl, rfl⟩
set_option maxHeartbeats 4000000 in
set_option maxRecDepth 100000 in
theorem sortNil_calls (fv : Value) (w : World) : Calls Try.prog 50 #[.slice none 0 0, fv] w fun e w' => e = .returned (.tuple #[]) ∧ w' = w := by
  have hl : Calls Try.prog 54 #[.int .u64 0] w fun e w' => e = .returned (.int .i64 (Lib.bitLen 0 : Nat)) ∧ w' = w :=
    Any.bits_Len (SlLaysF0.n15.bits (P := Try.prog) (ρ := sortL_ren) { sortL with }) 0 w (by omega) (by omega)
  have h := fun l w => pdqNil_calls l fv w
  go_enter Try.func50, Try.ntmps50
  go_wp2_with fail
  refine hl.mono ?_
  rintro e w1 ⟨rfl, rfl⟩
  go_wp2_with fail
  refine (h _ _).mono ?_
  rintro e w1 ⟨rfl, rfl⟩
  go_wp2
  go_end0
  exact ⟨rfl, rfl⟩

theorem eg_closure (args : Array Value) (w : World) : (callFunc 51 args).run Try.prog w = .ok (.enter 51 args) w := by kernel_rfl
/-- The sort of a row of one's own whose senders are unlike. -/
theorem sort_calls (base : Nat) (v : Value) (l : List Sgn) (w : World) (hown : w.ownsRow base 38 3 v l.length (sL l)) (hn : (l.map (·.1)).Nodup) (hl : l.length < 1000000) :
    Calls Try.prog 50 #[v, .func (.func 51) #[] #[]] w fun e w' => e = .returned (.tuple #[]) ∧ ∃ l', l'.Pairwise (fun x y => x.1 < y.1) ∧ (∀ m, m ∈ l' ↔ m ∈ l) ∧ l'.length = l.length ∧ w'.ownsRow base 38 3 v l.length (sL l') ∧ (v.ownBlock = none → w' = w) ∧ (∀ r, v.ownBlock = some r → Off r w w') := by
  rcases hown.2 with ⟨rfl, h0⟩ | ⟨r, cap, cur, rfl, hb, hB, hnc, hcm, hcs, ht⟩
  · have hl0 : l = [] := List.eq_nil_of_length_eq_zero h0
    subst hl0
    refine (sortNil_calls _ w).mono ?_
    rintro e w1 ⟨rfl, rfl⟩
    exact ⟨rfl, [], List.Pairwise.nil, fun _ => Iff.rfl, rfl, hown, fun _ => rfl, fun r hr => by cases hr⟩
  · have hBl : Blk w r cur 38 := hB
    have hd : (l.toArray).toList = l := by simp
    have hds : (l.toArray).size = l.length := by simp
    have hC : CmpLays Try.prog 51 #[] sC 3 cfM r 0 l.toArray.size w := fun m os dk hdk x y => closure_calls x y _
    have h := AnyQ.slices_SortFunc (P := Try.prog) (ρ := sortL_ren) sortL 3 aggS sizS sC sC_len sC_one cfM swoM 51 #[] r 0 cap l.toArray w eg_closure hC (holds_own hBl (by rw [hds, ht, hd])) hBl.lt (by rw [hds]; omega)
    rw [hds] at h
    refine Calls.mono h ?_
    rintro e w1 ⟨rfl, d', n, os, hp, hs, rfl⟩
    have hsz : d'.size = l.length := by rw [hp.1, hds]
    have hperm : d'.toList.Perm l := by
      have := hp.2.2
      rw [show d'.extract 0 l.length = d' by rw [← hsz]; simp, show l.toArray.extract 0 l.length = l.toArray by simp] at this
      simpa using this
    refine ⟨rfl, d'.toList, rises_of_sorted (by rw [hsz]; exact hs) ((hperm.map (·.1)).nodup_iff.2 hn), fun m => hperm.mem_iff, by simpa using hsz, ⟨by rw [sL_len]; simp [hsz], Or.inr ⟨r, cap, _, rfl, hb, sort_heap (cs := cur) hB (by rw [hsz, hcs]; exact Nat.mul_le_mul_right _ hnc), hnc, hcm, ?_, ?_⟩⟩, (fun h => by cases h), fun r' hr' => ?_⟩
    · have : (l.length) * 3 ≤ cap * 3 := Nat.mul_le_mul_right _ hnc
      simp only [List.size_toArray, List.length_append, sL_len, List.length_drop, Array.length_toList, hsz]
      omega
    · rw [List.take_left' (by rw [sL_len]; simp [hsz])]
    · injection hr' with hr'
      rw [← hr']; exact sort_off
end Go.Proofs.Ytjpmnmgnbpecjaa
