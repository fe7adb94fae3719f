/- What a proof shows of a key, against a root: the program's answer. -/
import Derived.Test.YtpcafjbebhcilaaGreatTm31
namespace Go.Proofs.YtpcafjbebhcilaaGreat
open Go.RowKit
set_option linter.unusedSimpArgs false
set_option linter.unusedVariables false
variable {p b x y : Nat} {T : List ByteArray} {S : List (Int × ByteArray)}

def valB (q : Pf) (key : ByteArray) : ByteArray := match q.paths with | [t] => if t.key = key then t.dat else ⟨#[]⟩ | _ => ⟨#[]⟩
theorem valB_not {q : Pf} {key : ByteArray} (h : thereB q key = false) : valB q key = ⟨#[]⟩ := by
  unfold thereB at h
  unfold valB
  split at h
  · rw [decide_eq_false_iff_not] at h; simp [*]
  · split
    · rename_i h1 _ t h2; exact absurd h2 (h1 t)
    · rfl
theorem thereB_is {q : Pf} {key : ByteArray} (h : thereB q key = true) : ∃ t, q.paths = [t] ∧ t.key = key ∧ valB q key = t.dat := by
  unfold thereB at h
  unfold valB
  split at h
  · rename_i t ht
    rw [decide_eq_true_eq] at h
    exact ⟨t, ht, h, by simp [ht, h]⟩
  · cases h
/-- What Verify answers. -/
structure VerifyP (x y p b : Nat) (T : List ByteArray) (S : List (Int × ByteArray)) (w : World) (q : Pf) (rt key : ByteArray) (e : Ending) (w' : World) : Prop where
  field : isK key = false → e = .returned (.tuple #[.string ⟨#[]⟩, .bool false, .int .i64 14]) ∧ Below w.heap.size w w'
  bad : isK key = true → (pfFits q && showsB q key) = false → e = .returned (.tuple #[.string ⟨#[]⟩, .bool false, .int .i64 40]) ∧ Below w.heap.size w w'
  good : isK key = true → pfFits q = true → showsB q key = true → ∃ T', Grew x y p b T S w 40 T' w' ∧
    ((LedNot T' q rt ∧ e = .returned (.tuple #[.string ⟨#[]⟩, .bool false, .int .i64 40])) ∨ (LedAll T' q rt ∧ e = .returned (.tuple #[.string (valB q key), .bool (thereB q key), .int .i64 0])))

set_option maxHeartbeats 4000000 in
set_option maxRecDepth 100000 in
theorem verify_field (q : Pf) (lv : Value) (rt key : ByteArray) (w : World) (hk : isK key = false) (h : Book w p b x y T S) (hS : S.length < 1000000) :
    Calls Tryz.prog 38 #[.pointer (some ⟨p, 0, none⟩), .string rt, .string key, q.val lv] w fun e w' => e = .returned (.tuple #[.string ⟨#[]⟩, .bool false, .int .i64 14]) ∧ Below w.heap.size w w' := by
  obtain ⟨W1, hW1, B1⟩ : ∃ W1, w.alloc (.cells #[.int .i64 q.cnt, lv] 36) = W1 ∧ Below w.heap.size w W1 := ⟨_, rfl, by go_grown⟩
  have HB : Hid _ := isBook_calls W1 (h.below B1) hS
  have HK : Hid _ := fun wx => isKey_calls key wx
  rw [hk] at HK
  unfold Pf.val
  clear h hk
  go_enter Tryz.func38, Tryz.ntmps38
  go_wp2_with fail
  refine Calls.mono HB.out ?_
  rintro e w2 ⟨rfl, b2⟩
  go_wp2_with fail
  refine (HK.out _).mono ?_
  rintro e w3 ⟨rfl, rfl⟩
  go_wp2
  go_ret3
  exact ⟨rfl, chain B1 b2⟩
set_option maxHeartbeats 4000000 in
set_option maxRecDepth 100000 in
theorem verify_bad (q : Pf) (lv : Value) (rt key : ByteArray) (w : World) (hs : PtsC w lv q.paths) (hk : isK key = true) (hf : pfFits q = false) (h : Book w p b x y T S) (hS : S.length < 1000000) :
    Calls Tryz.prog 38 #[.pointer (some ⟨p, 0, none⟩), .string rt, .string key, q.val lv] w fun e w' => e = .returned (.tuple #[.string ⟨#[]⟩, .bool false, .int .i64 40]) ∧ Below w.heap.size w w' := by
  obtain ⟨W1, hW1, X1, B1, Z1⟩ : ∃ W1, w.alloc (.cells #[.int .i64 q.cnt, lv] 36) = W1 ∧ Blk W1 w.heap.size #[.int .i64 q.cnt, lv] 36 ∧ Below w.heap.size w W1 ∧ W1.heap.size = w.heap.size + 1 :=
    ⟨_, rfl, blk_new _ _ _ _ rfl, by go_grown, by simp⟩
  have e0 : W1.cell? ⟨w.heap.size, 0, none⟩ = some (.int .i64 q.cnt) := X1.cell rfl
  have e1 : W1.cell? ⟨w.heap.size, 1, none⟩ = some lv := X1.cell rfl
  obtain ⟨a, cap, rfl⟩ := hs.1.len
  have HB : Hid _ := isBook_calls W1 (h.below B1) hS
  have HK : Hid _ := fun wx => isKey_calls key wx
  have HP : Hid _ := fun wx (hb : Below w.heap.size w wx) => isProofM_calls q _ wx (hs.1.below hb)
  rw [hk] at HK
  rw [hf] at HP
  unfold Pf.val at *
  clear h hk hf X1 hs
  go_enter Tryz.func38, Tryz.ntmps38
  go_wp2_with fail
  refine Calls.mono HB.out ?_
  rintro e w2 ⟨rfl, b2⟩
  have f0 := keepCell b2 e0
  have f1 := keepCell b2 e1
  go_wp2_with fail
  refine (HK.out _).mono ?_
  rintro e w3 ⟨rfl, rfl⟩
  go_wp2_with fail
  refine (HP.out _ (chain B1 b2)).mono ?_
  rintro e w4 ⟨rfl, b4⟩
  go_wp2
  go_ret3
  exact ⟨rfl, chain (chain B1 b2) b4⟩
set_option maxHeartbeats 4000000 in
set_option maxRecDepth 100000 in
theorem verify_dim (q : Pf) (lv : Value) (rt key : ByteArray) (w : World) (hs : PtsC w lv q.paths) (hk : isK key = true) (hf : pfFits q = true) (hh : showsB q key = false) (h : Book w p b x y T S) (hS : S.length < 1000000) :
    Calls Tryz.prog 38 #[.pointer (some ⟨p, 0, none⟩), .string rt, .string key, q.val lv] w fun e w' => e = .returned (.tuple #[.string ⟨#[]⟩, .bool false, .int .i64 40]) ∧ Below w.heap.size w w' := by
  obtain ⟨W1, hW1, X1, B1, Z1⟩ : ∃ W1, w.alloc (.cells #[.int .i64 q.cnt, lv] 36) = W1 ∧ Blk W1 w.heap.size #[.int .i64 q.cnt, lv] 36 ∧ Below w.heap.size w W1 ∧ W1.heap.size = w.heap.size + 1 :=
    ⟨_, rfl, blk_new _ _ _ _ rfl, by go_grown, by simp⟩
  obtain ⟨hok, hfit⟩ := pfFits_parts hf
  obtain ⟨hcc, hp2, hpt⟩ := pfOk_parts hok
  have e0 : W1.cell? ⟨w.heap.size, 0, none⟩ = some (.int .i64 q.cnt) := X1.cell rfl
  have e1 : W1.cell? ⟨w.heap.size, 1, none⟩ = some lv := X1.cell rfl
  obtain ⟨a, cap, rfl⟩ := hs.1.len
  have HB : Hid _ := isBook_calls W1 (h.below B1) hS
  have HK : Hid _ := fun wx => isKey_calls key wx
  have HP : Hid _ := fun wx (hb : Below w.heap.size w wx) => isProofM_calls q _ wx (hs.1.below hb)
  have HW : Hid _ := fun wx (hb : Below w.heap.size w wx) => shows_calls q _ key wx (hs.1.below hb) hcc (fun t ht => (ptOk_parts (hpt t ht)).1)
  rw [hk] at HK
  rw [hf] at HP
  rw [hh] at HW
  unfold Pf.val at *
  clear h hk hf hh X1 hs hpt hok hfit hp2 hcc
  go_enter Tryz.func38, Tryz.ntmps38
  go_wp2_with fail
  refine Calls.mono HB.out ?_
  rintro e w2 ⟨rfl, b2⟩
  have f0 := keepCell b2 e0
  have f1 := keepCell b2 e1
  go_wp2_with fail
  refine (HK.out _).mono ?_
  rintro e w3 ⟨rfl, rfl⟩
  go_wp2_with fail
  refine (HP.out _ (chain B1 b2)).mono ?_
  rintro e w4 ⟨rfl, b4⟩
  have g0 := keepCell b4 f0
  have g1 := keepCell b4 f1
  go_wp2_with fail
  refine (HW.out _ (chain (chain B1 b2) b4)).mono ?_
  rintro e w5 ⟨rfl, b5⟩
  go_wp2
  go_ret3
  exact ⟨rfl, chain (chain (chain B1 b2) b4) b5⟩
set_option maxHeartbeats 4000000 in
set_option maxRecDepth 100000 in
theorem verify_led (q : Pf) (lv : Value) (rt key : ByteArray) (w : World) (hs : PtsC w lv q.paths) (hk : isK key = true) (hf : pfFits q = true) (hh : showsB q key = true) (h : Book w p b x y T S) (hS : S.length < 1000000) (hT : T.length < 900000) :
    Calls Tryz.prog 38 #[.pointer (some ⟨p, 0, none⟩), .string rt, .string key, q.val lv] w fun e w' => ∃ T', Grew x y p b T S w 40 T' w' ∧
    ((LedNot T' q rt ∧ e = .returned (.tuple #[.string ⟨#[]⟩, .bool false, .int .i64 40])) ∨ (LedAll T' q rt ∧ e = .returned (.tuple #[.string (valB q key), .bool (thereB q key), .int .i64 0]))) := by
  obtain ⟨W1, hW1, X1, B1, Z1⟩ : ∃ W1, w.alloc (.cells #[.int .i64 q.cnt, lv] 36) = W1 ∧ Blk W1 w.heap.size #[.int .i64 q.cnt, lv] 36 ∧ Below w.heap.size w W1 ∧ W1.heap.size = w.heap.size + 1 :=
    ⟨_, rfl, blk_new _ _ _ _ rfl, by go_grown, by simp⟩
  obtain ⟨hok, hfit⟩ := pfFits_parts hf
  obtain ⟨hcc, hp2, hpt⟩ := pfOk_parts hok
  have e0 : W1.cell? ⟨w.heap.size, 0, none⟩ = some (.int .i64 q.cnt) := X1.cell rfl
  have e1 : W1.cell? ⟨w.heap.size, 1, none⟩ = some lv := X1.cell rfl
  have hth := fun (hx : thereB q key = true) => thereB_is hx
  have HV : Hid _ := fun (wx : World) (hp : Pts wx lv q.paths) (hx : thereB q key = true) => (show ∃ g off cap, lv = .slice (some ⟨g, off, none⟩) 1 cap ∧ wx.cell? ⟨g, off + 2, none⟩ = some (.string (valB q key)) ∧ (valB q key).size ≤ 4096 from by
    obtain ⟨t, ht, hkt, hv⟩ := thereB_is hx
    obtain ⟨g, off, cap, sv, e, _, _, m2, _⟩ := hp.at 0 (by rw [ht]; simp)
    have ht0 : q.paths[0]'(by rw [ht]; simp) = t := by simp [ht]
    rw [ht0] at m2
    simp only [Nat.zero_mul, Nat.add_zero] at m2
    exact ⟨g, off, cap, by rw [e, ht]; rfl, by rw [hv]; exact m2, by rw [hv]; exact (ptOk_parts (hpt t (by rw [ht]; simp))).2.2.1⟩)
  have HB : Hid _ := isBook_calls W1 (h.below B1) hS
  have HK : Hid _ := fun wx => isKey_calls key wx
  have HP : Hid _ := fun wx (hb : Below w.heap.size w wx) => isProofM_calls q lv wx (hs.1.below hb)
  have HW : Hid _ := fun wx (hb : Below w.heap.size w wx) => shows_calls q lv key wx (hs.1.below hb) hcc (fun t ht => (ptOk_parts (hpt t ht)).1)
  have HL : Hid _ := fun wx (hb : Below w.heap.size w wx) => leads_calls q lv rt wx (hs.below hb) hf (h.below hb) hT
  have HT : Hid _ := fun wx (hp : Pts wx lv q.paths) => there_calls q lv key wx hp
  have HPT : Hid _ := fun wx wy (hb : Below w.heap.size w wx) (ho : Off2 x y wx wy) => (hs.1.below hb).off2 (h.below hb) ho
  have HG : Hid _ := fun wx (hb : Below w.heap.size w wx) => (Grew.refl h).below hb
  rw [hk] at HK
  rw [hf] at HP
  rw [hh] at HW
  unfold Pf.val at *
  obtain ⟨a, cap, hlv⟩ := hs.1.len
  have HLV : Hid _ := hlv
  clear hlv hk hf hh X1 hs hpt hok hfit hp2 hcc hth
  go_enter Tryz.func38, Tryz.ntmps38
  go_wp2_with fail
  refine Calls.mono HB.out ?_
  rintro e w2 ⟨rfl, b2⟩
  have f0 := keepCell b2 e0
  have f1 := keepCell b2 e1
  go_wp2_with fail
  refine (HK.out _).mono ?_
  rintro e w3 ⟨rfl, rfl⟩
  go_wp2_with fail
  refine (HP.out _ (chain B1 b2)).mono ?_
  rintro e w4 ⟨rfl, b4⟩
  have g0 := keepCell b4 f0
  have g1 := keepCell b4 f1
  go_wp2_with fail
  refine (HW.out _ (chain (chain B1 b2) b4)).mono ?_
  rintro e w5 ⟨rfl, b5⟩
  have k0 := keepCell b5 g0
  have k1 := keepCell b5 g1
  have bb := chain (chain (chain B1 b2) b4) b5
  go_wp2_with fail
  refine (HL.out _ bb).mono ?_
  rintro e w6 ⟨r, T6, rfl, r1, r0, G6⟩
  have hB5 := Book.below h bb
  have m0 := keepCell2 hB5 G6.off k0
  have m1 := keepCell2 hB5 G6.off k1
  have GG := (HG.out _ bb).trans G6
  have P6 := HPT.out _ _ bb G6.off
  have HR1 : Hid _ := r1
  have HR0 : Hid _ := r0
  have HGG : Hid _ := GG
  have HP6 : Hid _ := P6
  clear HB HK HP HW HL e0 e1 f0 f1 g0 g1 k0 k1 hW1 r1 r0 GG P6 G6 hB5 h HPT HG
  cases r
  · go_wp2
    go_ret3
    exact ⟨T6, HGG.out.le (by omega), Or.inl ⟨HR0.out (by trivial), rfl⟩⟩
  · go_wp2_with fail
    refine (HT.out _ HP6.out).mono ?_
    rintro e w7 ⟨rfl, b7⟩
    have n0 := keepCell b7 m0
    have n1 := keepCell b7 m1
    have HV7 : Hid _ := HV.out w7 (Pts.below HP6.out b7)
    cases hth : thereB q key
    · have HVN : Hid _ := valB_not hth
      go_wp2
      go_ret3
      exact ⟨T6, (HGG.out.below b7).le (by omega), Or.inr ⟨HR1.out (by trivial), by rw [HVN.out]; first | rfl | (rw [hth]; rfl)⟩⟩
    · obtain ⟨g, off, cap7, rfl, c2, hsz⟩ := HV7.out hth
      obtain ⟨V, hV⟩ : ∃ V, valB q key = V := ⟨_, rfl⟩
      rw [hV] at c2 hsz
      have HVV : Hid _ := hV
      clear hV HV7 HV
      go_wp2_with fail
      refine (clone_calls V _ (by omega)).mono ?_
      rintro e w8 ⟨rfl, b8⟩
      go_wp2
      go_ret3
      exact ⟨T6, ((HGG.out.below b7).below b8).le (by omega), Or.inr ⟨HR1.out (by trivial), by rw [HVV.out]; first | rfl | (rw [hth]; rfl)⟩⟩
theorem verify_calls (q : Pf) (lv : Value) (rt key : ByteArray) (w : World) (hs : PtsC w lv q.paths) (h : Book w p b x y T S) (hS : S.length < 1000000) (hT : T.length < 900000) :
    Calls Tryz.prog 38 #[.pointer (some ⟨p, 0, none⟩), .string rt, .string key, q.val lv] w (VerifyP x y p b T S w q rt key) := by
  cases hk : isK key
  · exact (verify_field q lv rt key w hk h hS).mono (fun e w' hx => ⟨fun _ => hx, fun e => (by rw [hk] at e; cases e), fun e => (by rw [hk] at e; cases e)⟩)
  cases hf : pfFits q
  · exact (verify_bad q lv rt key w hs hk hf h hS).mono (fun e w' hx => ⟨fun e => (by rw [hk] at e; cases e), fun _ _ => hx, fun _ e => (by rw [hf] at e; cases e)⟩)
  cases hh : showsB q key
  · exact (verify_dim q lv rt key w hs hk hf hh h hS).mono (fun e w' hx => ⟨fun e => (by rw [hk] at e; cases e), fun _ _ => hx, fun _ _ e => (by rw [hh] at e; cases e)⟩)
  · exact (verify_led q lv rt key w hs hk hf hh h hS hT).mono (fun e w' hx => ⟨fun e => (by rw [hk] at e; cases e), fun _ e => (by rw [hf, hh] at e; cases e), fun _ _ _ => hx⟩)
end Go.Proofs.YtpcafjbebhcilaaGreat
