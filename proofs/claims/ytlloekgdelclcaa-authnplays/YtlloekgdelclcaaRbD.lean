/- The document's Digest. -/
import Derived.Test.YtlloekgdelclcaaRb
namespace Go.Proofs.Ytlloekgdelclcaa
open Go.RowKit
set_option linter.unusedSimpArgs false
set_option linter.unusedVariables false
variable {p b x y base r : Nat} {tv sv : Value} {T : List ByteArray} {S : List (Int × ByteArray)}

theorem own_cell3 {w : World} {e : TypeId} {z n : Nat} {v : Value} {xs : List Value} (ho : w.ownsRow base e z v n xs) (hn : 0 < n) : ∃ g cap, v = .slice (some ⟨g, 0, none⟩) n cap ∧ n ≤ cap ∧ g < w.heap.size ∧ ∀ j u, xs[j]? = some u → w.cell? ⟨g, j, none⟩ = some u := by
  obtain ⟨g, cap, hv, _, hc, hcc⟩ := own_at ho hn
  have := World.ownsRow.lt ho g (by rw [hv]; rfl)
  exact ⟨g, cap, hv, hc, this.2, hcc⟩

set_option maxHeartbeats 2000000 in
set_option maxRecDepth 100000 in
theorem refDigest_calls (s : ByteArray) (w : World) (h : RB w base r tv sv T S) (hT : T.length < 1000000) (hs : s.size ≤ 140737488351232) (hbase : base ≤ w.heap.size) :
    Calls Try.prog 10 #[.pointer (some ⟨r, 0, none⟩), .string s] w fun e w' => e = .returned (.string (eightB (num (note T s) s))) ∧ ∃ tv', RB w' base r tv' sv (note T s) S ∧ Off3 r tv.ownBlock w w' := by
  obtain ⟨i0, hi, hz0, hz1, hz3⟩ := info_parts infoStrR
  have HR : Hid _ := h
  have hlen : ∃ tp tc, tv = .slice tp T.length tc := by
    rcases h.texts.2 with ⟨rfl, h3⟩ | ⟨g, cap, cur, hv, _⟩
    · exact ⟨none, 0, by rw [h3]⟩
    · exact ⟨_, _, hv⟩
  obtain ⟨tp, tc, rfl⟩ := hlen
  have c0 : w.cell? ⟨r, 0, none⟩ = some (.slice tp T.length tc) := h.blk.cell rfl
  have hrl := h.blk.lt
  clear h
  generalize hA : eightB (num (note T s) s) = A at *
  have HA : Hid _ := hA
  clear hA
  go_enter Try.func10, Try.ntmps10
  go_wp2_with fail
  go_loopw [5] (fun i wr => ∃ k : Nat, k ≤ T.length ∧ i = .int .i64 k ∧ wr = w ∧ Hid (∀ j (h : j < T.length), j < k → T[j] ≠ s)) (fun i _ => T.length - (intOf i).toNat)
  case atStart => exact ⟨0, Nat.zero_le _, rfl, rfl, fun j _ hj => absurd hj (Nat.not_lt_zero _)⟩
  case round =>
    obtain ⟨k, hk, rfl, rfl, HN⟩ := hrel
    by_cases hlt : k < T.length
    · have hd : decide ((k : Int) < (T.length : Int)) = true := by simp only [decide_eq_true_eq]; omega
      obtain ⟨g, cap, hv, hcap, hgl, hcc⟩ := own_cell3 HR.out.texts (by omega)
      simp only [Value.slice.injEq] at hv
      obtain ⟨rfl, -, rfl⟩ := hv
      have c1 := hcc k _ (txC_at T k hlt)
      have HE : Hid _ := rfl (a := T[k])
      have hsE := eqS T[k] s
      have HTk : Hid _ := fun (e : T[k] = s) => seek_first s T 0 k HN.out hlt e
      have HNk : Hid _ := fun (e : ¬ T[k] = s) => (show ∀ j (h : j < T.length), j < k + 1 → T[j] ≠ s from fun j hj hjk => by
        by_cases e2 : j = k
        · subst e2; exact e
        · exact HN.out j hj (by omega))
      clear hcc HE
      generalize T[k] = t at *
      by_cases he : t = s
      · rw [decide_eq_true he] at hsE
        have hmem := HTk.out he
        have hin : s ∈ T := by
          by_cases h1 : s ∈ T
          · exact h1
          · rw [seek_none s T 0 h1] at hmem; cases hmem
        have hnote : note T s = T := by unfold note; rw [if_pos hin]
        have hnum : num T s = k + 1 := by rw [num_of_seek hmem]; omega
        rw [hnote, hnum] at HA
        have hEt : t.toList = s.toList := by rw [he]
        subst he
        have H8 : Hid _ := fun wx => refEight_calls (k + 1) wx (by omega)
        clear hmem hin hnum
        go_wp2_with fail
        refine (H8.out _).mono ?_
        rintro e w1 ⟨rfl, b1⟩
        go_wp2
        go_ret
        exact ⟨by rw [← HA.out]; rfl, _, by rw [hnote]; exact RB.below HR.out b1, Off3.of_below b1⟩
      · rw [decide_eq_false he] at hsE
        have hne : ¬ t.toList = s.toList := by simpa using hsE
        go_wp2_with fail
        exact ⟨⟨k + 1, by omega, by go_num, by trivial, HNk.out he⟩, by simp [intOf]; omega⟩
    · have hd : decide ((k : Int) < (T.length : Int)) = false := by simp only [decide_eq_false_iff_not]; omega
      obtain rfl : k = T.length := by omega
      have hnin : s ∉ T := seek_never s T (fun j hj => (HN.out : ∀ j (h : j < T.length), j < T.length → T[j] ≠ s) j hj hj)
      have hnote : note T s = T ++ [s] := by unfold note; rw [if_neg hnin]
      have hnum : num (note T s) s = T.length + 1 := num_new hnin
      rw [hnum] at HA
      have H8 : Hid _ := fun wx => refEight_calls (T.length + 1) wx (by omega)
      have HNt : Hid _ := hnote
      clear hnin hnum hnote
      go_wp2_with (at_builtin; refine wpList_append_own _ rfl (.tmp 31) (.tmp 33) 26 rfl base 9 i0 (.string ⟨#[]⟩) 1 16 Try.underlying26 hi hz0 hz1 hz3 rfl (by decide) _ _ _ rfl (World.ownsRow.alloc (RB.texts HR.out) _) ⟨wr.heap.size, 0, none⟩ 1 1 [.string s] rfl rfl ?c1 ?c2 ?c3 ?c4 ?c5 ?_)
      case c1 => exact cell_one_new _ _ _
      case c2 => intro u hu; simp at hu; subst hu; rfl
      case c3 => unfold maxLen; omega
      case c4 => omega
      case c5 => simp; omega
      intro v' w4 ho' hg' _
      have hB0 : Blk wr r #[.slice tp T.length tc, sv] 29 := RB.blk HR.out
      have hne : (Value.slice tp T.length tc).ownBlock ≠ some r := row_not (RB.texts HR.out) hB0 (by decide)
      have X4 : Blk w4 r #[.slice tp T.length tc, sv] 29 := (hg'.block r (by simp; omega) (fun e => hne e.symm)).trans (hB0.alloc _)
      have hlen' : ∃ p' c', v' = .slice p' (T.length + 1) c' := by
        rcases ho'.2 with ⟨rfl, h3⟩ | ⟨g, cap, cur, hv, _⟩
        · omega
        · exact ⟨_, _, hv⟩
      have hne' : v'.ownBlock ≠ some r := row_not ho' X4 (by decide)
      obtain ⟨p', c', rfl⟩ := hlen'
      have d0 : w4.cell? ⟨r, 0, none⟩ = some (.slice tp T.length tc) := X4.cell rfl
      have f0 := X4.frozen (o := 0)
      have hsg : (w4.setCell ⟨r, 0, none⟩ (.slice p' (T.length + 1) c')).ownsRow base 68 2 sv S.length (wdC S) := by
        have h1 : w4.ownsRow base 68 2 sv S.length (wdC S) := World.ownsRow.kept (World.ownsRow.alloc (RB.signed HR.out) _) hg' (own_two3 (RB.signed HR.out) (RB.texts HR.out) (by decide))
        exact own_set3 h1 (row_not h1 X4 (by decide))
      have HRB : Hid _ := (show RB (w4.setCell ⟨r, 0, none⟩ (.slice p' (T.length + 1) c')) base r (.slice p' (T.length + 1) c') sv (T ++ [s]) S from
        ⟨X4.set 0 _, RB.rb HR.out, by rw [List.length_append, txC_snoc]; exact own_set3 ho' hne', hsg⟩)
      have HO3 : Hid _ := (show Off3 r (Value.slice tp T.length tc).ownBlock wr (w4.setCell ⟨r, 0, none⟩ (.slice p' (T.length + 1) c')) from
        ⟨hg'.os, hg'.tape, hg'.output, by have := hg'.size; simp [World.setCell] at this ⊢; omega, fun k hk h1 h2 => by
          rw [heap_setCell_other w4 ⟨r, 0, none⟩ k _ h1, hg'.block k (by simp; omega) (fun e => h2 e.symm)]
          exact (Below.block ((Below.refl wr.heap.size wr).alloc (Nat.le_refl _) _) k hk)⟩)
      clear hsg ho' hg' hne hne' hB0 X4
      go_wp2_with fail
      refine (H8.out _).mono ?_
      rintro e w5 ⟨rfl, b5⟩
      go_wp2
      go_ret
      exact ⟨by rw [← HA.out]; rfl, _, by rw [HNt.out]; exact RB.below HRB.out b5, Off3.trans HO3.out b5⟩
end Go.Proofs.Ytlloekgdelclcaa
