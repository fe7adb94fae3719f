/- Amend, Cancel. -/
import Derived.Test.YtglbfeccdibmiaaCaDe
namespace Go.Proofs.Ytglbfeccdibmiaa
open Go.Shelf Go.RowKit Go.Lib Go.Sort
set_option linter.unusedSimpArgs false
set_option linter.unusedVariables false
variable {base p : Nat} {v : Value} {B : Bo}

def Bo.rem (B : Bo) (i : Nat) : Bo := ⟨B.nx, B.os.eraseIdx i⟩
theorem BInv.rem (h : BInv B) (i : Nat) : BInv (B.rem i) := by
  have hs : (B.rem i).os.Sublist B.os := List.eraseIdx_sublist ..
  refine ⟨h.nx1, h.nx2, Nat.le_trans hs.length_le h.len, fun o ho => h.may o (hs.subset ho), h.ids.sublist hs, h.pls.sublist hs, fun o ho => h.pl o (hs.subset ho)⟩

set_option maxHeartbeats 4000000 in
set_option maxRecDepth 100000 in
theorem remove_calls (i : Nat) (w : World) (h : Bk w base p v B) (hi : i < B.os.length) : Calls Try.prog 30 #[.pointer (some ⟨p, 0, none⟩), .int .i64 i] w fun e w' => e = .returned (.tuple #[]) ∧ ∃ v', Bst w w' base p v v' (B.rem i) := by
  have hlen := h.inv.len
  obtain ⟨m, hm⟩ : ∃ m, B.os.length = m + 1 := ⟨B.os.length - 1, by omega⟩
  have hrow := h.row
  rw [hm] at hrow
  rcases h.row.2 with ⟨_, h0⟩ | ⟨g, cap, cur, hv, hgb, hBl, hnc, hcm, hcs, ht⟩
  · exfalso; omega
  rw [hm] at hv
  subst hv
  have hgp : g ≠ p := fun e => h.ne (by rw [e]; rfl)
  have HD : Hid _ := delete_calls g cap i m B.os w hm hrow (by omega) (by omega)
  have c1 : w.cell? ⟨p, 1, none⟩ = some (.slice (some ⟨g, 0, none⟩) (m + 1) cap) := h.blk.cell rfl
  have HH : Hid _ := h
  have hie : (i : Int) < 9223372036854775807 := by omega
  have HM : Hid _ := hm
  clear h hrow hBl hcs ht hm
  go_enter Try.func30, Try.ntmps30
  go_wp2_with fail
  refine Calls.mono HD.out ?_
  rintro e w1 ⟨rfl, own1, of1⟩
  have P1 : Blk w1 p #[.int .i64 B.nx, .slice (some ⟨g, 0, none⟩) (m + 1) cap] 38 := HH.out.blk.off of1 (fun e => hgp e.symm)
  have c2 : w1.cell? ⟨p, 1, none⟩ = some (.slice (some ⟨g, 0, none⟩) (m + 1) cap) := P1.cell rfl
  have f2 : w1.frozen? ⟨p, 1, none⟩ = false := P1.frozen
  have HF : Hid (Bst w (w1.setCell ⟨p, 1, none⟩ (.slice (some ⟨g, 0, none⟩) m cap)) base p (.slice (some ⟨g, 0, none⟩) (m + 1) cap) (.slice (some ⟨g, 0, none⟩) m cap) (B.rem i)) := by
    have hl : (B.rem i).os.length = m := by
      show (B.os.eraseIdx i).length = m
      rw [List.length_eraseIdx_of_lt hi, HM.out]; rfl
    have O1 : Ofb p (.slice (some ⟨g, 0, none⟩) (m + 1) cap) w w1 := ⟨of1.os, of1.tape, of1.output, of1.size, fun k hk h1 h2 => of1.block k hk (fun e => h2 (by rw [e]; rfl))⟩
    refine ⟨⟨P1.set 1 _, ?_, HH.out.le, by simpa [Value.ownBlock] using hgp, HH.out.inv.rem i⟩, ofb_cell O1 (q := ⟨p, 1, none⟩) (Or.inl rfl) _, fun k hk => Or.inl hk⟩
    exact World.ownsRow.kept own1 (row := some p) ⟨rfl, rfl, rfl, by rw [World.size_setCell]; exact Nat.le_refl _, fun j hj hjp => Below.heap_setCell _ _ _ _ (by intro e; exact hjp (by rw [e]))⟩ (Or.inr (by simpa [Value.ownBlock] using hgp))
  clear own1 of1 P1
  go_wp2
  go_end0
  exact ⟨rfl, _, HF.out⟩

def Bo.cancel (B : Bo) (x y : Int) : Int × Bo := if fnd B.os x < 0 then (3, B) else if (gtB B.os x).1.own = y then (0, B.rem (fnd B.os x).toNat) else (80, B)
set_option maxHeartbeats 4000000 in
set_option maxRecDepth 100000 in
theorem cancel_calls (x y : Int) (w : World) (h : Bk w base p v B) (r : Int × Bo) (hr : B.cancel x y = r) : Calls Try.prog 12 #[.pointer (some ⟨p, 0, none⟩), .int .i64 x, .int .i64 y] w fun e w' => e = .returned (.int .i64 r.1) ∧ ∃ v', Bst w w' base p v v' r.2 := by
  unfold Bo.cancel at hr
  have HH : Hid _ := h
  rcases fnd_cases B.os x with ⟨f1, f2⟩ | ⟨i, o, f1, f2, f3, f4⟩
  · rw [if_pos (by rw [f1]; decide)] at hr
    subst hr
    have HO : Hid _ := owned_none x y w h f1
    clear h f1 f2
    go_enter Try.func12, Try.ntmps12
    go_wp2_with fail
    refine Calls.mono HO.out ?_
    rintro e w1 ⟨rfl, b1⟩
    go_wp2
    go_ret
    exact ⟨rfl, v, Bst.same HH.out b1⟩
  · rw [if_neg (by rw [f1]; omega), gtB_some f1 f2 f3, f1, Int.toNat_natCast] at hr
    by_cases hy : o.own = y
    · rw [if_pos hy] at hr
      subst hr
      have HO : Hid _ := owned_some x y w h i o f1 f2 (i, 0) (by rw [if_pos hy])
      have HR : Hid _ := fun (w1 : World) (b1 : Below w.heap.size w w1) => remove_calls i w1 (h.below b1) f4
      clear h f1 f2 f3 hy
      go_enter Try.func12, Try.ntmps12
      go_wp2_with fail
      refine Calls.mono HO.out ?_
      rintro e w1 ⟨rfl, b1⟩
      go_wp2_with fail
      refine Calls.mono (HR.out w1 b1) ?_
      rintro e w2 ⟨rfl, v2, S2⟩
      go_wp2
      go_ret
      exact ⟨rfl, v2, Bst.first b1 S2⟩
    · rw [if_neg hy] at hr
      subst hr
      have HO : Hid _ := owned_some x y w h i o f1 f2 (0, 80) (by rw [if_neg hy])
      clear h f1 f2 f3 hy
      go_enter Try.func12, Try.ntmps12
      go_wp2_with fail
      refine Calls.mono HO.out ?_
      rintro e w1 ⟨rfl, b1⟩
      go_wp2
      go_ret
      exact ⟨rfl, v, Bst.same HH.out b1⟩
end Go.Proofs.Ytglbfeccdibmiaa
