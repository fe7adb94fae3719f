/- The house: Do, for any request. -/
import Derived.Test.YtgofjheoebabeaaGreatHx47
import Derived.Test.YtgofjheoebabeaaGreatHx37
import Derived.Test.YtgofjheoebabeaaGreatHx42
import Derived.Test.YtgofjheoebabeaaGreatHx40
import Derived.Test.YtgofjheoebabeaaGreatHx01
import Derived.Test.YtgofjheoebabeaaGreatHx35
import Derived.Test.YtgofjheoebabeaaGreatHx07
import Derived.Test.YtgofjheoebabeaaGreatHx09
namespace Go.Proofs.YtgofjheoebabeaaGreat
open Go.RowKit
set_option linter.unusedSimpArgs false
set_option linter.unusedVariables false
variable {base : Nat}

/-- What a request does to a house of at most four goods. -/
structure Dps (H H' : Hs) (c : Int) (o : Oo) : Prop where
  g : H'.g = H.g
  nms : H'.ms.length = H.ms.length
  l : Gtn H.l H'.l (outK o) (if c = 0 then outN o else 0)
  now : H'.now = if c = 0 ∧ o.k = 1 then H.now + 1 else H.now
theorem outN_none {o : Oo} (h : o.k < 2 ∨ 5 < o.k) : outN o = 0 := by
  unfold outN
  rw [if_neg (by omega), if_neg (by omega)]
theorem Hps.dps {H H' : Hs} (h : Hps H H') (c : Int) {o : Oo} (ho : o.k < 1 ∨ 5 < o.k) : Dps H H' c o :=
  ⟨h.g, h.nms, by rw [outN_none (by omega), show (if c = 0 then (0 : Int) else 0) = 0 by split <;> rfl]; exact h.l.gtn _, by rw [if_neg (by omega)]; exact h.now⟩
theorem acc_dps {f : Nat → Ks → Int → Oo → Int × Ks} {H : Hs} {who : Int} {o : Oo} {x : Nat} {n : Int} (h : (f H.g H.l who o).1 = 0 ∧ Gtn H.l (f H.g H.l who o).2 x n ∨ ¬ (f H.g H.l who o).1 = 0 ∧ (f H.g H.l who o).2 = H.l)
    (hk : o.k ≠ 1) (hx : outK o = x) (hn : outN o = n) : Dps H (accH f H who o).2 (accH f H who o).1 o := by
  refine ⟨rfl, rfl, ?_, by rw [if_neg (fun e => hk e.2)]; rfl⟩
  rw [hx, hn]
  rcases h with ⟨h1, h2⟩ | ⟨h1, h2⟩
  · rw [if_pos (show (accH f H who o).1 = 0 from h1)]; exact h2
  · rw [if_neg (show ¬ (accH f H who o).1 = 0 from h1)]
    show Gtn H.l (f H.g H.l who o).2 x 0
    rw [h2]
    exact (Kps.refl _).gtn _
theorem deedR_dps {H : Hs} (hg : H.g ≤ 4) (who : Int) (o : Oo) : Dps H (deedR H who o).2 (deedR H who o).1 o := by
  unfold deedR
  by_cases k1 : o.k = 1
  · rw [if_pos k1]
    rcases tickR_hps hg with ⟨h1, h2, _⟩ | ⟨h1, h2⟩
    · refine ⟨h2.g, h2.nms, ?_, by rw [if_pos ⟨h1, k1⟩]; exact h2.now⟩
      rw [outN_none (by omega), h1, if_pos rfl]
      exact h2.l.gtn _
    · rw [h1, h2]
      exact ⟨rfl, rfl, by rw [if_neg (by decide)]; exact (Kps.refl _).gtn _, by rw [if_neg (fun e => by cases e.1)]⟩
  rw [if_neg k1]
  by_cases k2 : o.k = 2
  · rw [if_pos k2]; exact acc_dps (pay_gtn _ _ _ _) k1 (by unfold outK; rw [if_neg (by omega)]) (by unfold outN; rw [if_pos (by omega)])
  rw [if_neg k2]
  by_cases k3 : o.k = 3
  · rw [if_pos k3]; exact acc_dps (take_gtn _ _ _ _) k1 (by unfold outK; rw [if_neg (by omega)]) (by unfold outN; rw [if_neg (by omega), if_pos (by omega)])
  rw [if_neg k3]
  by_cases k4 : o.k = 4
  · rw [if_pos k4]; exact acc_dps (store_gtn hg _ _ _) k1 (by unfold outK; rw [if_pos (by omega)]) (by unfold outN; rw [if_pos (by omega)])
  rw [if_neg k4]
  by_cases k5 : o.k = 5
  · rw [if_pos k5]; exact acc_dps (fetch_gtn hg _ _ _) k1 (by unfold outK; rw [if_pos (by omega)]) (by unfold outN; rw [if_neg (by omega), if_pos (by omega)])
  rw [if_neg k5]
  by_cases k6 : o.k = 6
  · rw [if_pos k6]; exact (offerR_hps hg who o).dps _ (by omega)
  rw [if_neg k6]
  by_cases k7 : o.k = 7
  · rw [if_pos k7]; exact (wantR_hps hg who o).dps _ (by omega)
  rw [if_neg k7]
  by_cases k8 : o.k = 8
  · rw [if_pos k8]; exact (putR_hps hg who o).dps _ (by omega)
  rw [if_neg k8]
  by_cases k9 : o.k = 9
  · rw [if_pos k9]; exact (amendR_hps hg who o).dps _ (by omega)
  rw [if_neg k9]
  by_cases k10 : o.k = 10
  · rw [if_pos k10]; exact (cancelR_hps hg who o).dps _ (by omega)
  rw [if_neg k10]
  refine ⟨rfl, rfl, ?_, by rw [if_neg (fun e => by cases e.1)]⟩
  rw [if_neg (show ¬ ((90 : Int), H).1 = 0 by intro e; cases e)]
  exact (Kps.refl _).gtn _

theorem offerR_pst {H : Hs} (h : Pst H) (who : Int) (o : Oo) : Pst (offerR H who o).2 := by
  unfold offerR
  split
  · exact h
  · split
    · exact h
    · split
      · exact h
      · next h1 =>
        have hf : Clo.Au.fits o.a (Quo.ticksR o.pr 6).1 o.d (H.l.length : Int) := by
          have := Classical.not_not.1 h1
          exact this
        split
        · exact h
        · split
          · exact h
          · exact h.set _ _ ⟨rfl, by have := Clo.Inv.new hf; rwa [Int.toNat_natCast] at this⟩
theorem wantR_pst {H : Hs} (h : Pst H) (who : Int) (o : Oo) : Pst (wantR H who o).2 := by
  unfold wantR
  split
  · exact h
  · split
    · exact h
    · split
      · next x hx =>
        obtain ⟨h0, h1⟩ := h _ x hx
        split
        · exact h
        · split
          · exact h
          · split
            · exact h.set _ _ ⟨(bid_keeps _ _ _).1.trans ((bid_keeps _ _ _).1.trans h0), (h1.bid _ _).bid _ _⟩
            · exact h.set _ _ ⟨(bid_keeps _ _ _).1.trans h0, h1.bid _ _⟩
      · exact h
theorem Pst.same {H H' : Hs} (h : Pst H) (e : H'.ss = H.ss) : Pst H' := by
  intro i x hx
  rw [e] at hx
  exact h i x hx
theorem deedR_pst {H : Hs} (h : Pst H) (who : Int) (o : Oo) : Pst (deedR H who o).2 := by
  unfold deedR
  repeat' split
  · exact tickR_pst h
  · exact h
  · exact h
  · exact h
  · exact h
  · exact offerR_pst h _ _
  · exact wantR_pst h _ _
  · refine h.same ?_
    unfold putR
    repeat' split
    all_goals rfl
  · refine h.same ?_
    unfold amendR amdR
    repeat' split
    all_goals rfl
  · refine h.same ?_
    unfold cancelR
    repeat' split
    all_goals rfl
  · exact h

/-- What bytes ask for. -/
def reqR (H : Hs) (who : Int) (op : ByteArray) : Int × Hs := match ofOpR op with
  | .ok o => deedR H who o
  | .error _ => (90, H)
def valR (H : Hs) (who : Int) (op : ByteArray) : Int := match ofOpR op with
  | .ok o => if (deedR H who o).1 = 0 ∧ o.k = 1 then (deedR H who o).2.now else 0
  | .error _ => 0
/-- A request: the reply, why there is none, and the house behind it. -/
def doR (H : Hs) (who stamp : Int) (op : ByteArray) : ByteArray × Int × Hs :=
  if refR H.l who stamp = 0 then (layR (reqR H who op).1 (valR H who op), 0, doneS who stamp (reqR H who op) (valR H who op)) else (⟨#[]⟩, refR H.l who stamp, H)
theorem reqR_cd (H : Hs) (who : Int) (op : ByteArray) : cd (reqR H who op).1 := by
  unfold reqR
  split
  · exact deedR_cd _ _ _
  · unfold cd; simp
theorem valR_bd {H : Hs} (hg : H.g ≤ 4) (hn : 0 ≤ H.now ∧ H.now ≤ 9007199254740992) (who : Int) (op : ByteArray) : 0 ≤ valR H who op ∧ valR H who op ≤ 9007199254740992 := by
  unfold valR
  split
  · next o _ =>
    split
    · next h =>
      have h1 := deedR_dps hg who o
      rw [h1.now, if_pos h]
      have h2 := h.1
      unfold deedR at h2
      rw [if_pos h.2] at h2
      rcases tickR_hps hg with ⟨_, _, h3⟩ | ⟨h3, _⟩
      · omega
      · rw [h3] at h2; cases h2
    · omega
  · omega
theorem refR_ok {l : Ks} {who stamp : Int} (h : refR l who stamp = 0) : ∃ i : Nat, who = i ∧ i < l.length ∧ 1 ≤ stamp ∧ stamp ≤ 1099511627776 ∧ (Led.kAt l i).n 10 < stamp := by
  unfold refR at h
  split at h
  · cases h
  · split at h
    · cases h
    · split at h
      · cases h
      · next h1 h2 h3 => exact ⟨who.toNat, by omega, by omega, by omega, by omega, by omega⟩

theorem vget_none {k : Int} (h : k < 1 ∨ 10 < k) : vget deedsKV k = none := by
  unfold deedsKV
  simp only [vget]
  repeat' split
  all_goals first | rfl | omega | simp_all <;> omega
set_option maxRecDepth 100000 in
theorem any_request (w : World) {X : Ad} {H : Hs} (h : Hm w base X H) (hB : base ≤ w.heap.size) (hp : Pst H) (who : Int) (hw0 : 0 ≤ who) (hw1 : who < H.l.length) (op : ByteArray) (hs : op.size ≤ maxLen) :
    Calls Tryz.prog 23 #[.pointer (some ⟨X.p, 0, none⟩), .int .i64 who, .string op] w (ReqP base X w (reqR H who op) (valR H who op)) := by
  unfold reqR valR
  have hbad : ∀ (o : Oo) (er : Int), opAns (ofOpR op) = #[o.val, .int .i64 er] → (¬ er = 0 ∨ vget deedsKV o.k = none) → Calls Tryz.prog 23 #[.pointer (some ⟨X.p, 0, none⟩), .int .i64 who, .string op] w (ReqP base X w (90, H) 0) :=
    fun o er h1 h2 => (request_bad w h who op hs o er h1 h2).mono fun e w' ⟨e1, e2⟩ => ⟨e1, X, h.below e2, Hst.of_below e2, rfl⟩
  cases hO : ofOpR op with
  | error er =>
    simp only
    refine hbad zeroOo er ?_ (Or.inl (ofOpR_nz hO))
    rw [hO]; rfl
  | ok o =>
    simp only
    obtain ⟨hgo, hk0, hk1⟩ := ofOpR_good hO
    have go : ∀ (r : Int × Hs) (F : FuncId), deedR H who o = r → vget deedsKV o.k = some (.func (.func F) #[] #[]) → (∀ args w, (callFunc F args).run Tryz.prog w = .ok (.enter F args) w) →
        (∀ wx, Hm wx base X H → base ≤ wx.heap.size → Calls Tryz.prog F #[.pointer (some ⟨X.p, 0, none⟩), .int .i64 who, o.val] wx (Deed base X wx r)) →
        Calls Tryz.prog 23 #[.pointer (some ⟨X.p, 0, none⟩), .int .i64 who, .string op] w (ReqP base X w (deedR H who o) (if (deedR H who o).1 = 0 ∧ o.k = 1 then (deedR H who o).2.now else 0)) :=
      fun r F e hF hc hD => by
        subst e
        exact request_hs w h hB who op hs _ o hO F hF hc hD
    by_cases k1 : o.k = 1
    · exact go _ 51 (by unfold deedR; rw [if_pos k1]) (by rw [k1]; rfl) (fun _ _ => rfl) (fun wx hx hBx => tickE_hs wx hx hBx hp who o)
    by_cases k2 : o.k = 2
    · exact go _ 52 (by unfold deedR; rw [if_neg k1, if_pos k2]) (by rw [k2]; rfl) (fun _ _ => rfl) (fun wx hx hBx => pay_deed wx hx who o)
    by_cases k3 : o.k = 3
    · exact go _ 53 (by unfold deedR; rw [if_neg k1, if_neg k2, if_pos k3]) (by rw [k3]; rfl) (fun _ _ => rfl) (fun wx hx hBx => take_deed wx hx who o)
    by_cases k4 : o.k = 4
    · exact go _ 54 (by unfold deedR; rw [if_neg k1, if_neg k2, if_neg k3, if_pos k4]) (by rw [k4]; rfl) (fun _ _ => rfl) (fun wx hx hBx => store_deed wx hx who o)
    by_cases k5 : o.k = 5
    · exact go _ 55 (by unfold deedR; rw [if_neg k1, if_neg k2, if_neg k3, if_neg k4, if_pos k5]) (by rw [k5]; rfl) (fun _ _ => rfl) (fun wx hx hBx => fetch_deed wx hx who o)
    by_cases k6 : o.k = 6
    · exact go _ 56 (by unfold deedR; rw [if_neg k1, if_neg k2, if_neg k3, if_neg k4, if_neg k5, if_pos k6]) (by rw [k6]; rfl) (fun _ _ => rfl) (fun wx hx hBx => offer_hs wx hx hBx who hw0 hw1 o hgo)
    by_cases k7 : o.k = 7
    · exact go _ 57 (by unfold deedR; rw [if_neg k1, if_neg k2, if_neg k3, if_neg k4, if_neg k5, if_neg k6, if_pos k7]) (by rw [k7]; rfl) (fun _ _ => rfl) (fun wx hx hBx => want_hs wx hx hBx who hw0 hw1 o hgo)
    by_cases k8 : o.k = 8
    · exact go _ 58 (by unfold deedR; rw [if_neg k1, if_neg k2, if_neg k3, if_neg k4, if_neg k5, if_neg k6, if_neg k7, if_pos k8]) (by rw [k8]; rfl) (fun _ _ => rfl) (fun wx hx hBx => put_hs wx hx hBx who hw0 hw1 o hgo (fun e => Quo.ticks_bd e))
    by_cases k9 : o.k = 9
    · exact go _ 59 (by unfold deedR; rw [if_neg k1, if_neg k2, if_neg k3, if_neg k4, if_neg k5, if_neg k6, if_neg k7, if_neg k8, if_pos k9]) (by rw [k9]; rfl) (fun _ _ => rfl) (fun wx hx hBx => amend_hs wx hx hBx who hw0 hw1 o hgo (fun e => Quo.ticks_bd e))
    by_cases k10 : o.k = 10
    · exact go _ 60 (by unfold deedR; rw [if_neg k1, if_neg k2, if_neg k3, if_neg k4, if_neg k5, if_neg k6, if_neg k7, if_neg k8, if_neg k9, if_pos k10]) (by rw [k10]; rfl) (fun _ _ => rfl) (fun wx hx hBx => cancel_hs wx hx hBx who hw0 hw1 o hgo)
    have e : deedR H who o = (90, H) := by
      unfold deedR
      rw [if_neg k1, if_neg k2, if_neg k3, if_neg k4, if_neg k5, if_neg k6, if_neg k7, if_neg k8, if_neg k9, if_neg k10]
    rw [e, if_neg (fun e => by cases e.1)]
    refine hbad o 0 ?_ (Or.inr (vget_none (by omega)))
    rw [hO]; rfl
theorem do_calls (w : World) {X : Ad} {H : Hs} (h : Hm w base X H) (hB : base ≤ w.heap.size) (hp : Pst H) (who stamp : Int) (op : ByteArray) (hs : op.size ≤ maxLen) :
    Calls Tryz.prog 9 #[.pointer (some ⟨X.p, 0, none⟩), .int .i64 who, .int .i64 stamp, .string op] w fun e w' => e = .returned (.tuple #[.string (doR H who stamp op).1, .int .i64 (doR H who stamp op).2.1]) ∧ ∃ X', Hm w' base X' (doR H who stamp op).2.2 ∧ Hst w w' X X' ∧ X'.p = X.p := by
  unfold doR
  by_cases hr : refR H.l who stamp = 0
  · rw [if_pos hr]
    obtain ⟨i, rfl, hi, _⟩ := refR_ok hr
    exact do_hs w h hB _ stamp op hr (reqR H _ op) (valR H _ op) (reqR_cd _ _ _) (valR_bd h.ha.lg.inv.g4 h.n0 _ _) (fun wx hx hBx => any_request wx hx hBx hp _ (by omega) (by omega) op hs)
  · rw [if_neg hr]
    exact (do_no w h who stamp op hr).mono fun e w' ⟨h1, h2⟩ => ⟨h1, X, h.below h2, Hst.of_below h2, rfl⟩
theorem doR_pst {H : Hs} (h : Pst H) (who stamp : Int) (op : ByteArray) : Pst (doR H who stamp op).2.2 := by
  unfold doR
  split
  · refine Pst.same (H := (reqR H who op).2) ?_ rfl
    unfold reqR
    split
    · exact deedR_pst h _ _
    · exact h
  · exact h
/-- A mark. -/
theorem markR_is {l l' : Ks} {who stamp : Int} {t : ByteArray} (h : refR l who stamp = 0) (hl : l'.length = l.length) (hs : ∀ j, (Led.kAt l' j).n 10 = (Led.kAt l j).n 10) (ht : t.size ≤ 256) :
    ∃ i : Nat, who = i ∧ i < l'.length ∧ Led.markR l' who stamp t = (0, Led.markL l' i stamp t) := by
  obtain ⟨i, rfl, h1, h2, h3, h4⟩ := refR_ok h
  refine ⟨i, rfl, by omega, ?_⟩
  unfold Led.markR
  rw [Int.toNat_natCast, if_neg (fun e => e ⟨by omega, by omega⟩), if_neg (by omega), if_neg (by rw [hs]; omega)]
/-- What any request does to all there is, to the time and to the sizes. -/
structure Rps (H H' : Hs) (c : Int) (o : Oo) : Prop where
  g : H'.g = H.g
  nms : H'.ms.length = H.ms.length
  len : H'.l.length = H.l.length
  tot : ∀ x, Led.IsA x → Led.tot H'.l x = Led.tot H.l x + if x = outK o then (if c = 0 then outN o else 0) else 0
  now : H'.now = if c = 0 ∧ o.k = 1 then H.now + 1 else H.now
theorem Dps.done {H H' : Hs} {c V : Int} {o : Oo} (h : Dps H H' c o) {who stamp : Int} (hr : refR H.l who stamp = 0) : Rps H (doneS who stamp (c, H') V) c o := by
  have hls := layR_size c V
  obtain ⟨i, rfl, hi, e⟩ := markR_is (l' := H'.l) (t := layR c V) hr h.l.len h.l.st (by omega)
  refine ⟨h.g, h.nms, ?_, fun x hx => ?_, h.now⟩
  · show (Led.markR H'.l i stamp (layR c V)).2.length = _
    rw [e]
    exact (Led.markL_len _ _ _ _).trans h.l.len
  · show Led.tot (Led.markR H'.l i stamp (layR c V)).2 x = _
    rw [e]
    show Led.tot (Led.markL H'.l i stamp (layR c V)) x = _
    rw [Led.sum_mark hi hx, h.l.tot x hx]
    omega
end Go.Proofs.YtgofjheoebabeaaGreat

namespace Go.Proofs.YtgofjheoebabeaaGreat
open Go.ChangeShapes Go.WideShapes Go.ChangeAt Go.RowKit Go.Deep
set_option linter.unusedSimpArgs false
set_option linter.unusedVariables false

def Rq.fit (a : Rq) : Prop := a.op.pr < 18446744073709551616 ∧ a.txt.size ≤ 140737488351232
abbrev Rqs (w : World) (v : Value) (l : List Rq) : Prop := Elems 10 Rq.cells Rq.fit w v l
theorem cellsRi : Tryz.prog.cellsOf 3 = 1 := by kernel_rfl
theorem cellsRf : Tryz.prog.cellsOf 23 = 1 := by kernel_rfl
theorem cellsRb : Tryz.prog.cellsOf 4 = 1 := by kernel_rfl
theorem cellsRs : Tryz.prog.cellsOf 9 = 1 := by kernel_rfl
theorem cellsRo : Tryz.prog.cellsOf 25 = 6 := by kernel_rfl
theorem cellsRa : Tryz.prog.cellsOf 27 = 10 := by kernel_rfl
theorem bytesRa : Tryz.prog.bytesOf 27 = 88 := by kernel_rfl
theorem list5r {α : Type} {l : List α} (h : l.length = 5) : ∃ a b c d e, l = [a, b, c, d, e] := by
  match l, h with
  | [a, b, c, d, e], _ => exact ⟨a, b, c, d, e, rfl⟩
theorem list6r {α : Type} {l : List α} (h : l.length = 6) : ∃ a b c d e f, l = [a, b, c, d, e, f] := by
  match l, h with
  | [a, b, c, d, e, f], _ => exact ⟨a, b, c, d, e, f, rfl⟩
theorem list10r {α : Type} {l : List α} (h : l.length = 10) : ∃ a b c d e f g i j k, l = [a, b, c, d, e, f, g, i, j, k] := by
  match l, h with
  | [a, b, c, d, e, f, g, i, j, k], _ => exact ⟨a, b, c, d, e, f, g, i, j, k, rfl⟩
section
variable {H : Type} {enc : TypeId × Value → H} {w : World} {base : Nat} {spare : Nat → Bool} {held : Bool}
theorem trod_float {P : Program} {fuel : Nat} {t : TypeId} {k : FloatKind} {v : Value} {x : DataW H × List MemPlace} (ht : P.underlying t = some (.float k)) (h : DataW.trod enc P w base spare held fuel t [v] = some x) : ∃ b, v = .float k b ∧ (Lit.float k b).wf = true := by
  cases fuel with
  | zero => simp [DataW.trod] at h
  | succ n =>
    cases v with
    | float k' b =>
      simp only [DataW.trod, ht] at h
      split at h
      · rename_i hk
        obtain ⟨rfl, hw⟩ := hk
        exact ⟨b, rfl, hw⟩
      · cases h
    | _ => simp [DataW.trod, ht] at h
set_option maxRecDepth 100000 in
theorem open_opR {fuel : Nat} {cs : List Value} {x : DataW H × List MemPlace} (hx : DataW.trod enc Tryz.prog w base spare held fuel 25 cs = some x) :
    ∃ o : Oo, cs = [.int .i64 o.k, .int .i64 o.g, .int .i64 o.a, .int .i64 o.d, .int .i64 o.i, .float .f64 o.pr] ∧ o.pr < 18446744073709551616 := by
  obtain ⟨xs, n, _, hxe, hl, hlen, hfl⟩ := DataW.trod_struct Tryz.underlying25 hx
  rw [cellsRo] at hl
  obtain ⟨k0, k1, k2, k3, k4, k5, rfl⟩ := list6r hl
  obtain ⟨y0, y1, y2, y3, y4, y5, hxs⟩ := list6r (l := xs) (by simpa using hlen)
  subst hxs
  have g0 := hfl 0 _ rfl
  have g1 := hfl 1 _ rfl
  have g2 := hfl 2 _ rfl
  have g3 := hfl 3 _ rfl
  have g4 := hfl 4 _ rfl
  have g5 := hfl 5 _ rfl
  simp only [cellsRi, cellsRf, List.drop_zero, List.drop_succ_cons, List.take_succ_cons, List.take_zero, List.getElem?_cons_zero, List.getElem?_cons_succ] at g0 g1 g2 g3 g4 g5
  obtain ⟨i0, e0, _, _⟩ := DataW.trod_int Tryz.underlying3 g0
  obtain ⟨i1, e1, _, _⟩ := DataW.trod_int Tryz.underlying3 g1
  obtain ⟨i2, e2, _, _⟩ := DataW.trod_int Tryz.underlying3 g2
  obtain ⟨i3, e3, _, _⟩ := DataW.trod_int Tryz.underlying3 g3
  obtain ⟨i4, e4, _, _⟩ := DataW.trod_int Tryz.underlying3 g4
  obtain ⟨bb, e5, hw⟩ := trod_float Tryz.underlying23 g5
  have q0 : k0 = .int .i64 i0 := by simpa [cellsRi] using e0
  have q1 : k1 = .int .i64 i1 := by simpa [cellsRi] using e1
  have q2 : k2 = .int .i64 i2 := by simpa [cellsRi] using e2
  have q3 : k3 = .int .i64 i3 := by simpa [cellsRi] using e3
  have q4 : k4 = .int .i64 i4 := by simpa [cellsRi] using e4
  have hb : bb < 2 ^ 64 := by simpa [Lit.wf] using hw
  exact ⟨⟨i0, i1, i2, i3, i4, bb⟩, by rw [q0, q1, q2, q3, q4, e5], by omega⟩
set_option maxRecDepth 100000 in
theorem open_rq {fuel : Nat} {cs : List Value} {x : DataW H × List MemPlace} (hx : DataW.trod enc Tryz.prog w base spare held fuel 27 cs = some x) (hw : (x.1.weights Tryz.prog 27).all (· ≤ reachBytes) = true) : ∃ a : Rq, cs = a.cells ∧ a.fit := by
  obtain ⟨xs, n, _, hxe, hl, hlen, hfl⟩ := DataW.trod_struct Tryz.underlying27 hx
  rw [cellsRa] at hl
  obtain ⟨k0, k1, k2, k3, k4, k5, k6, k7, k8, k9, rfl⟩ := list10r hl
  obtain ⟨y0, y1, y2, y3, y4, hxs⟩ := list5r (l := xs) (by simpa using hlen)
  subst hxs
  have g0 : DataW.trod enc Tryz.prog w base spare held n 3 [k0] = some y0 := by
    have q : DataW.trod enc Tryz.prog w base spare held n 3 (List.take (Tryz.prog.cellsOf 3) (List.drop 0 [k0, k1, k2, k3, k4, k5, k6, k7, k8, k9])) = some y0 := hfl 0 _ rfl
    rw [cellsRi] at q; exact q
  have g1 : DataW.trod enc Tryz.prog w base spare held n 3 [k1] = some y1 := by
    have q : DataW.trod enc Tryz.prog w base spare held n 3 (List.take (Tryz.prog.cellsOf 3) (List.drop 1 [k0, k1, k2, k3, k4, k5, k6, k7, k8, k9])) = some y1 := hfl 1 _ rfl
    rw [cellsRi] at q; exact q
  have g2 : DataW.trod enc Tryz.prog w base spare held n 25 [k2, k3, k4, k5, k6, k7] = some y2 := by
    have q : DataW.trod enc Tryz.prog w base spare held n 25 (List.take (Tryz.prog.cellsOf 25) (List.drop 2 [k0, k1, k2, k3, k4, k5, k6, k7, k8, k9])) = some y2 := hfl 2 _ rfl
    rw [cellsRo] at q; exact q
  have g3 : DataW.trod enc Tryz.prog w base spare held n 4 [k8] = some y3 := by
    have q : DataW.trod enc Tryz.prog w base spare held n 4 (List.take (Tryz.prog.cellsOf 4) (List.drop 8 [k0, k1, k2, k3, k4, k5, k6, k7, k8, k9])) = some y3 := hfl 3 _ rfl
    rw [cellsRb] at q; exact q
  have g4 : DataW.trod enc Tryz.prog w base spare held n 9 [k9] = some y4 := by
    have q : DataW.trod enc Tryz.prog w base spare held n 9 (List.take (Tryz.prog.cellsOf 9) (List.drop 9 [k0, k1, k2, k3, k4, k5, k6, k7, k8, k9])) = some y4 := hfl 4 _ rfl
    rw [cellsRs] at q; exact q
  obtain ⟨i0, e0, _, _⟩ := DataW.trod_int Tryz.underlying3 g0
  obtain ⟨i1, e1, _, _⟩ := DataW.trod_int Tryz.underlying3 g1
  obtain ⟨o, e2, ho⟩ := open_opR g2
  obtain ⟨b3, e3, _⟩ := DataW.trod_bool Tryz.underlying4 g3
  obtain ⟨s4, e4, d4, _⟩ := DataW.trod_string Tryz.underlying9 g4
  have q0 : k0 = .int .i64 i0 := by simpa using e0
  have q1 : k1 = .int .i64 i1 := by simpa using e1
  have q3 : k8 = .bool b3 := by simpa using e3
  have q4 : k9 = .string s4 := by simpa using e4
  simp only [List.cons.injEq, and_true] at e2
  obtain ⟨r2, r3, r4, r5, r6, r7⟩ := e2
  have hd : x.1 = .agg [y0.1, y1.1, y2.1, y3.1, y4.1] := by simpa using congrArg Prod.fst hxe
  rw [hd] at hw
  have w5 := List.all_eq_true.1 hw s4.data.toList.length (by
    simp only [DataW.weights, Tryz.underlying27]
    refine DataW.weights_mem_each (j := 4) (t := 9) (d := y4.1) rfl rfl _ ?_
    rw [d4]; simp [DataW.weights])
  have z5 := of_decide_eq_true w5
  rw [Array.length_toList] at z5
  exact ⟨⟨i0, i1, o, b3, s4⟩, by rw [q0, q1, r2, r3, r4, r5, r6, r7, q3, q4]; rfl, ho, Nat.le_trans z5 (by unfold reachBytes; decide)⟩
theorem open_rqs {v : Value} {d : DataW H} {p : List MemPlace} (hv : v.cells = #[v]) (h : DataW.Trod enc Tryz.prog w base spare held 22 v d p) (hsz : (d.weights Tryz.prog 22).all (· ≤ reachBytes) = true) (hlt : ∀ x ∈ p, x.block < w.heap.size) :
    ∃ l : List Rq, Rqs w v l ∧ l.length * 88 ≤ 140737488351232 := by
  haveI : Nonempty Rq := ⟨⟨0, 0, ⟨0, 0, 0, 0, 0, 0⟩, false, .empty⟩⟩
  refine open_elems Rq.cells Rq.fit Tryz.underlying22 cellsRa (fun _ => rfl) (by decide) bytesRa ?_ hv h hsz hlt
  intro fuel cs x hx hw
  exact open_rq hx hw
set_option maxRecDepth 100000 in
theorem open_rq1 {r : Reach} {b0 : Nat} {v : Value} {d : DataW H} {p : List MemPlace} (hv : Value.okWide Tryz.prog w r b0 27 v) (h : DataW.Trod enc Tryz.prog w base spare held 27 v d p) (hsz : (DataW.weights Tryz.prog 27 d).all (· ≤ reachBytes) = true) :
    ∃ a : Rq, v = .agg a.cells.toArray ∧ a.fit := by
  obtain ⟨cs, rfl, _⟩ := okWide_struct Tryz.underlying27 hv
  obtain ⟨fuel, hf⟩ := h
  obtain ⟨a, hcs, hfit⟩ := open_rq hf hsz
  refine ⟨a, ?_, hfit⟩
  rw [← hcs]
  simp [Value.cells]
end
end Go.Proofs.YtgofjheoebabeaaGreat

namespace Go.Proofs.YtgofjheoebabeaaGreat
open Go.RowKit
set_option linter.unusedSimpArgs false
set_option linter.unusedVariables false
variable {p pl bl g base : Nat} {l : Ks} {mV sV : Value} {now : Int}

def g4z : Array Value := #[.int .i64 0, .int .i64 0, .int .i64 0, .int .i64 0]
theorem g4_info (a b c d : Int) : (Tryz.prog.info? 30).map (·.size) = some (#[.int .i64 a, .int .i64 b, .int .i64 c, .int .i64 d] : Array Value).size := by kernel_rfl
theorem g4_one (a b c d : Int) : (#[.int .i64 a, .int .i64 b, .int .i64 c, .int .i64 d] : Array Value).all (·.oneCell') = true := by kernel_rfl
set_option maxRecDepth 100000 in
set_option maxHeartbeats 1000000 in
theorem totals_hs (w : World) (h : Ha w p pl bl g l mV sV now) :
    Calls Tryz.prog 8 #[.pointer (some ⟨p, 0, none⟩)] w fun e w' => e = .returned (Led.totV (Led.tot l)) ∧ Below w.heap.size w w' := by
  obtain ⟨W0, hW0, X0, B0⟩ : ∃ W0, (w.alloc (.cells #[.int .i64 0, .int .i64 0, .int .i64 0, .int .i64 0] 30)) = W0 ∧ Blk W0 w.heap.size (Led.gC fun _ => 0) 30 ∧ Below w.heap.size w W0 := ⟨_, rfl, blk_new _ _ _ _ rfl, by go_grown⟩
  have hh := h.below B0
  have hma := made_hs W0 hh
  have c1 : W0.cell? ⟨p, 1, none⟩ = some (.pointer (some ⟨pl, 0, none⟩)) := hh.blk.cell rfl
  have HC : Hid _ := Led.totals_calls W0 hh.lg
  have HB : Hid _ := B0
  unfold Led.totV Led.gC at HC ⊢
  generalize Led.tot l 0 = t0 at *
  generalize Led.tot l 2 = t2 at *
  generalize Led.tot l 3 = t3 at *
  generalize Led.tot l 4 = t4 at *
  generalize Led.tot l 5 = t5 at *
  have X0' := X0
  clear h hh B0 X0
  go_enter Tryz.func8, Tryz.ntmps8
  go_wp2_with fail
  refine hma.mono ?_
  rintro e w1 ⟨rfl, rfl⟩
  go_wp2_with fail
  refine Calls.mono HC.out ?_
  rintro e w2 ⟨rfl, b2⟩
  have X2 : Blk w2 w.heap.size g4z 30 := X0'.below b2
  obtain ⟨W3, hW3, X3, B3⟩ : ∃ W3, w2.setRow w.heap.size #[.int .i64 t2, .int .i64 t3, .int .i64 t4, .int .i64 t5] = W3 ∧ Blk W3 w.heap.size #[.int .i64 t2, .int .i64 t3, .int .i64 t4, .int .i64 t5] 30 ∧ Below w.heap.size w W3 := ⟨_, rfl, Blk.setRow X2 _, below_setRow (HB.out.trans (b2.mono HB.out.size)) _ _ (Nat.le_refl _)⟩
  have q0 : W3.cell? ⟨w.heap.size, 0, none⟩ = some (.int .i64 t2) := X3.cell rfl
  have q1 : W3.cell? ⟨w.heap.size, 1, none⟩ = some (.int .i64 t3) := X3.cell rfl
  have q2 : W3.cell? ⟨w.heap.size, 2, none⟩ = some (.int .i64 t4) := X3.cell rfl
  have q3 : W3.cell? ⟨w.heap.size, 3, none⟩ = some (.int .i64 t5) := X3.cell rfl
  have HB3 : Hid _ := B3
  clear X3 B3 b2 X0'
  go_wp2_with ((with_reducible refine st_row (ty := 30) (cs' := #[.int .i64 t2, .int .i64 t3, .int .i64 t4, .int .i64 t5]) X2 (g4_info _ _ _ _) rfl (g4_one _ _ _ _) hW3 ?_ ?_ ?_); rfl; rfl)
  refine bodyPost_ret (v := .tuple #[.int .i64 t0, .agg #[.int .i64 t2, .int .i64 t3, .int .i64 t4, .int .i64 t5]]) (by simp [results, Tryz.results8, go_sem, q0, q1, q2, q3]) rfl ⟨rfl, HB3.out⟩
end Go.Proofs.YtgofjheoebabeaaGreat
