/- ledger.Of on a ledger's own records. -/
import Derived.Test.YtmcafgmjfgfaeaaDoorLr25
import Derived.Test.YtmcafgmjfgfaeaaDoorLr26
import Derived.Test.YtmcafgmjfgfaeaaDoorLr17
import Derived.Test.YtmcafgmjfgfaeaaDoorLr28
import Derived.Deep.DeepCutAuto
import Derived.Deep.CutBlock
namespace Go.Proofs.YtmcafgmjfgfaeaaDoor
open Go.RowKit
set_option linter.unusedSimpArgs false
set_option linter.unusedVariables false

def setAll : Array Value → Nat → List Value → Array Value
  | cs, _, [] => cs
  | cs, o, v :: r => setAll (cs.setIfInBounds o v) (o + 1) r
theorem setAll_mid : ∀ (V A C D : List Value), V.length = C.length → setAll (A ++ (C ++ D)).toArray A.length V = (A ++ (V ++ D)).toArray
  | [], A, [], D, _ => rfl
  | v :: V, A, c :: C, D, h => by
    have e : (A ++ (c :: C ++ D)).toArray.setIfInBounds A.length v = ((A ++ [v]) ++ (C ++ D)).toArray := by
      rw [List.setIfInBounds_toArray, List.set_append_right _ _ (Nat.le_refl _), Nat.sub_self]
      simp
    show setAll ((A ++ (c :: C ++ D)).toArray.setIfInBounds A.length v) (A.length + 1) V = _
    rw [e]
    have h2 := setAll_mid V (A ++ [v]) C D (by simpa using h)
    rw [List.length_append, List.length_singleton] at h2
    rw [h2]
    simp
theorem blk_setCells : ∀ (vs : List Value) (o : Nat) (w : World) (b : Nat) (cs : Array Value) (t : TypeId), Blk w b cs t → Blk (w.setCells b o vs) b (setAll cs o vs) t
  | [], _, _, _, _, _, h => h
  | v :: r, o, w, b, cs, t, h => by
    rw [World.setCells]
    exact blk_setCells r (o + 1) _ b _ t (h.set o v)
theorem off_setCells : ∀ (vs : List Value) (o : Nat) (x w : World) (b : Nat), Off b x w → Off b x (w.setCells b o vs)
  | [], _, _, _, _, h => h
  | v :: r, o, x, w, b, h => by
    rw [World.setCells]
    exact off_setCells r (o + 1) x _ b (h.setCell (p := ⟨b, o, none⟩) rfl v)
theorem kC_all {l : List Kt} {i : Nat} (hi : i < l.length) (k : Kt) : setAll (kC l) (i * 12) k.cells = kC (l.set i k) := by
  have e1 : kL l = (l.take i).flatMap Kt.cells ++ ((l[i]).cells ++ (l.drop (i + 1)).flatMap Kt.cells) := by
    have := kL_upd l i l[i] hi
    rw [List.set_getElem_self] at this
    exact this
  have e2 : ((l.take i).flatMap Kt.cells).length = i * 12 := by
    have := kL_len (l.take i)
    unfold kL at this
    rw [this, List.length_take]; congr 1; omega
  unfold kC
  rw [e1, ← e2, setAll_mid _ _ _ _ (by rw [Kt.len, Kt.len]), kL_upd _ _ _ hi]
/-- The first k clients of a ledger, the others empty. -/
def ofTo (l : List Kt) (k : Nat) : List Kt := l.take k ++ List.replicate (l.length - k) Kt.zero
theorem ofTo_len (l : List Kt) {k : Nat} (h : k ≤ l.length) : (ofTo l k).length = l.length := by simp [ofTo]; omega
theorem ofTo_set {l : List Kt} {k : Nat} (h : k < l.length) : (ofTo l k).set k (kAt l k) = ofTo l (k + 1) := by
  unfold ofTo
  rw [List.set_append_right _ _ (by rw [List.length_take]; omega), List.length_take, show k - min k l.length = 0 by omega, show l.length - k = (l.length - (k + 1)) + 1 by omega, List.replicate_succ, List.set_cons_zero, List.take_succ_eq_append_getElem h, kAt_eq h, List.append_assoc]
  rfl
theorem ofTo_zero (l : List Kt) : ofTo l 0 = List.replicate l.length Kt.zero := by simp [ofTo]
theorem ofTo_all (l : List Kt) : ofTo l l.length = l := by simp [ofTo]
theorem readyH_midC {P : Program} {md : Region.Mode} {ops : Array Oper} {Q : Exit → Act → World → Prop} {S : World → Prop} {fuel : Nat} {listed : Array Bool} {a : Act} {w : World} (i : Nat) {o : Oper} (ho : ops[i]? = some o) {ty : TypeId} {x y : Operand} (hop : o.op = .store ty x y) (hd : o.dst = none) (hgd : o.guard = none)
    (b f : Nat) (cells : Array Value) (hx : a.eval x = .pointer (some ⟨b, f, none⟩)) (hy : a.eval y = .agg cells) (ht : w.there b f cells.size) (hi : (P.info? ty).map (·.size) = some cells.size) (h1 : cells.all (·.oneCell') = true)
    (hS : S (w.setCells b f cells.toList)) (h : S (w.setCells b f cells.toList) → wpAnyH P md ops Q S fuel (listed.setIfInBounds i true) a (w.setCells b f cells.toList)) : AllReadyH P md ops Q S fuel listed a w [i] := by
  obtain ⟨dst, op, type, pos, after, guard⟩ := o
  simp only at hop hd hgd
  subst hop hd hgd
  exact AllReadyH.cons ho (fun K hK => step_ifC rfl (wp_store_mid ty x y rfl b f cells hx hy ht hi h1 (hK.out _ _ hS h))) AllReadyH.nil
theorem infoK12 : (Tryd.prog.info? 67).map (·.size) = some 12 := by kernel_rfl
end Go.Proofs.YtmcafgmjfgfaeaaDoor
