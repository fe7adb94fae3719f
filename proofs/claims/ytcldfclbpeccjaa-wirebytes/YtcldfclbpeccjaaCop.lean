/- Messages of one's own. -/
import Derived.Test.YtcldfclbpeccjaaMny
namespace Go.Proofs.Ytcldfclbpeccjaa
open Go.RowKit
set_option linter.unusedVariables false
set_option linter.unusedSimpArgs false

theorem append_empty (p : Option Addr) (c : Nat) (w : World) : (Builtin.append_ #[22, 22] 22 #[.slice none 0 0, .slice p 0 c]).run Try.prog w = .ok (.slice none 0 0) w := by
  cases p with
  | none => kernel_rfl
  | some a => kernel_rfl

theorem wpList_append_given (w : World) {ops : Array Oper} {rest : List Oper} {o : Oper} {a : Act} {Q : Exit → Act → World → Prop} (hgd : o.guard = none) (s x : Operand) (t : TypeId)
    (ho : o.op = .call { callee := .builtin .append, args := #[s, x], argTypes := #[t, t] }) (v u : Value) (hs : a.eval s = v) (hx : a.eval x = u) {v' : Value} {w' : World}
    (hr : (Builtin.append_ #[t, t] o.type #[v, u]).run Try.prog w = .ok v' w') (h : wpList Try.prog ops Q rest (a.put o.dst v') w') : wpList Try.prog ops Q (o :: rest) a w :=
  wpList_plain hgd fun K hK => by
    unfold Oper.wp execOp
    simp only [ho, resolve, invoke, builtin, Sem.run_bind, Sem.run_pure, Result.andThen_ok, List.map_toArray, List.map_cons, List.map_nil, hs, hx, hr]
    exact hK _ _ h

theorem sgCells_get (l : List Sg) : ∀ (j : Nat) (u : Value), (sgCells l)[j]? = some u → ∃ (i : Nat) (h : i < l.length), (j = i * 3 ∧ u = .int .i64 l[i].frm) ∨ (j = i * 3 + 1 ∧ u = .string l[i].body) ∨ (j = i * 3 + 2 ∧ u = .string l[i].sig) := by
  induction l with
  | nil => intro j u h; simp [sgCells] at h
  | cons m l ih =>
    intro j u h
    have e : sgCells (m :: l) = .int .i64 m.frm :: .string m.body :: .string m.sig :: sgCells l := by simp [sgCells]
    rw [e] at h
    match j, h with
    | 0, h => simp at h; exact ⟨0, by simp, Or.inl ⟨rfl, h.symm⟩⟩
    | 1, h => simp at h; exact ⟨0, by simp, Or.inr (Or.inl ⟨rfl, h.symm⟩)⟩
    | 2, h => simp at h; exact ⟨0, by simp, Or.inr (Or.inr ⟨rfl, h.symm⟩)⟩
    | j + 3, h =>
      simp at h
      obtain ⟨i, hi, hh⟩ := ih j u h
      refine ⟨i + 1, by simp; omega, ?_⟩
      simp only [List.getElem_cons_succ]
      rcases hh with ⟨h1, h2⟩ | ⟨h1, h2⟩ | ⟨h1, h2⟩
      · exact Or.inl ⟨by omega, h2⟩
      · exact Or.inr (Or.inl ⟨by omega, h2⟩)
      · exact Or.inr (Or.inr ⟨by omega, h2⟩)

set_option maxRecDepth 100000 in
set_option maxHeartbeats 1000000 in
theorem copied_calls (v : Value) (l : List Sg) (w : World) (h : Sgs w v l) (hl : l.length * 40 ≤ 140737488351232) :
    Calls Try.prog 5 #[v] w fun e w' => ∃ v', e = .returned v' ∧ w'.ownsRow w.heap.size 35 3 v' l.length (sgCells l) ∧ Below w.heap.size w w' := by
  obtain ⟨i0, hi, hz0, hz1, hz2⟩ := info_parts infoSigned
  rcases h with ⟨⟨pz, cz, rfl⟩, rfl⟩ | ⟨b, off, cap, rfl, hc⟩
  · go_enter Try.func5, Try.ntmps5
    go_wp2_with (at_builtin; refine wpList_append_given _ rfl (.tmp 4) (.tmp 5) 22 rfl _ _ rfl rfl (append_empty pz cz _) ?_)
    go_wp2
    go_ret
    exact ⟨_, rfl, World.ownsRow_nil _ _ _ _, Below.refl _ _⟩
  · have HC : Hid _ := hc
    clear hc
    go_enter Try.func5, Try.ntmps5
    go_wp2_with (at_builtin; refine wpList_append_own _ rfl (.tmp 4) (.tmp 5) 22 rfl w.heap.size 35 i0 (.agg #[.int .i64 0, .string ⟨#[]⟩, .string ⟨#[]⟩]) 3 40 Try.underlying22 hi hz0 hz1 hz2 rfl (by decide) (.slice none 0 0) 0 [] rfl (World.ownsRow_nil _ _ _ _) ⟨b, off, none⟩ l.length cap (sgCells l) rfl (sgCells_len l) ?c1 ?c2 ?c3 ?c4 ?c5 ?_)
    case c1 =>
      intro j u hj
      obtain ⟨i, hi, hh⟩ := sgCells_get l j u hj
      obtain ⟨q1, q2, q3, _⟩ := HC.out i hi
      rw [Addr.add_lit]
      rcases hh with ⟨rfl, rfl⟩ | ⟨rfl, rfl⟩ | ⟨rfl, rfl⟩
      · exact q1
      · exact q2
      · exact q3
    case c2 =>
      intro u hu
      obtain ⟨j, hj⟩ := List.getElem?_of_mem hu
      obtain ⟨i, hi, hh⟩ := sgCells_get l j u hj
      rcases hh with ⟨_, rfl⟩ | ⟨_, rfl⟩ | ⟨_, rfl⟩ <;> rfl
    case c3 => unfold maxLen; omega
    case c4 => omega
    case c5 => exact Nat.le_refl _
    intro v' w3 hown' hgrow _
    go_wp2
    go_ret
    exact ⟨_, rfl, hown', below_grown (Below.refl _ _) hgrow (fun k hk => by cases hk) (Nat.le_refl _)⟩
end Go.Proofs.Ytcldfclbpeccjaa
