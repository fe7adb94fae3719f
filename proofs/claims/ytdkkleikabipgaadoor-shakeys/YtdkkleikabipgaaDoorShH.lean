/- A hash takes more bytes. -/
import Derived.Test.YtdkkleikabipgaaDoorShG
import Derived.Deep.RegionHeld3
namespace Go.Proofs.YtdkkleikabipgaaDoor
open Go.RowKit
set_option linter.unusedSimpArgs false
set_option linter.unusedVariables false

theorem sizeByte : (Tryd.prog.info? 5).map (·.size) = some 1 := by kernel_rfl

theorem run_rest (b a : Nat) (w : World) (ha : a < 64) :
    (Instr.sliceAt 40 (.pointer (some ⟨b, 10, none⟩)) (some (.int .u64 (a : Int))) none none).run Tryd.prog w = .ok (.slice (some ⟨b, 10 + a, none⟩) (64 - a) (64 - a)) w := by
  have h1 : Tryd.prog.arrayLen 40 = 64 := by kernel_rfl
  have h2 : Tryd.prog.elem 40 = 5 := by kernel_rfl
  have hu : Tryd.prog.underlying 40 = some (.array (Tryd.prog.arrayLen 40) (Tryd.prog.elem 40)) := by rw [h1, h2]; exact Tryd.underlying40
  rw [run_sliceAt_array_l w 40 _ hu .u64 (a : Int) (by omega) (by rw [h1]; omega), h1, h2]
  have hz : (sizeOf 5).run Tryd.prog w = .ok 1 w := by kernel_rfl
  rw [hz]
  simp [slicedAt, Result.andThen, Addr.add_mid]
  omega

theorem KT.off {w w' : World} {b : Nat} (h : KT w) (ho : Off b w w') (hb : 0 ≠ b) : KT w' :=
  ⟨fun i hi => (ho.cell (p := ⟨0, i, none⟩) h.lt hb).trans (h.cell i hi)⟩
theorem hash_rest {w : World} {b : Nat} {B : Bool} {s : St} {n : Nat} {r : List UInt8} (X : Blk w b (hashA B s n r) 42) : w.rangeAt b 10 (Lib.byteCells r) := fun j v hv =>
  X.cell (by
    unfold hashA stL
    have e : 10 + j = j + 10 := by omega
    rw [e]
    simpa using hv)

theorem results_none {P : Program} {fn : Func} (h : fn.results = #[]) (tmps : Array Value) (w : World) : (results fn tmps).run P w = .ok (.tuple #[]) w := by
  simp [results, h]
theorem hash_state {w : World} {b : Nat} {B : Bool} {s : St} {n : Nat} {r : List UInt8} (X : Blk w b (hashA B s n r) 42) : w.rangeAt b 1 ((stL s).map fun x : Nat => Value.int .u32 (x : Int)) := fun j v hv =>
  X.cell (by
    have hj : j < 8 := by have := (List.getElem?_eq_some_iff.1 hv).1; simpa [stL] using this
    unfold hashA
    have e : 1 + j = j + 1 := by omega
    rw [e]
    simp only [List.getElem?_toArray, List.getElem?_cons_succ]
    rw [List.getElem?_append_left (by simp [stL]; omega)]
    exact hv)

set_option maxHeartbeats 1000000 in
set_option maxRecDepth 100000 in
theorem write_calls (b : Nat) (l : List UInt8) (s : ByteArray) (w : World) (hH : HashAt w b l) (hK : KT w) (hg : 0 ≠ b) (hs : s.size ≤ 4294967296) (hl : l.length ≤ 500000000000000) :
    Calls Tryd.prog 16 #[.pointer (some ⟨b, 0, none⟩), .string s] w fun e w' => (∃ v, e = .returned v) ∧ Off b w w' ∧ HashAt w' b (l ++ s.data.toList) := by
  obtain ⟨r0, hr1, hr2, X⟩ := hH.blk
  have c0 : w.cell? ⟨b, 0, none⟩ = some (.bool true) := X.cell rfl
  go_enter Tryd.func16, Tryd.ntmps16
  go_wp2
  go_loopw [1] (fun v wr => ∃ (t : List UInt8) (u : ByteArray), v = .string u ∧ s.data.toList = t ++ u.data.toList ∧ Off b w wr ∧ HashAt wr b (l ++ t)) (fun v _ => match v with | .string u => u.size | _ => 0)
  case atStart => exact ⟨[], s, rfl, rfl, Off.refl _ _, by simpa using hH⟩
  case round =>
    obtain ⟨t, u, rfl, hsp, ho, hH⟩ := hrel
    have hul : u.data.toList.length = u.size := by rw [Lib.size_eq]
    have hsl : s.data.toList.length = s.size := by rw [Lib.size_eq]
    have hlen : t.length + u.size = s.size := by rw [← hsl, hsp, List.length_append, hul]
    by_cases hu : 0 < u.size
    · obtain ⟨r, h1, h2, X⟩ := hH.blk
      have hLl : (l ++ t).length ≤ 800000000000000 := by rw [List.length_append]; omega
      generalize hL : l ++ t = L at *
      have HL : Hid _ := hL
      clear hL
      have c9 : wr.cell? ⟨b, 9, none⟩ = some (.int .u64 (L.length : Int)) := X.cell rfl
      obtain ⟨a, ha⟩ : ∃ a, L.length % 64 = a := ⟨_, rfl⟩
      have ha1 : a < 64 := by omega
      have ha2 : (L.length : Int) % 64 = (a : Int) := by omega
      have hrs := run_rest b a wr ha1
      obtain ⟨n, hn⟩ : ∃ n, Nat.min u.size (64 - a) = n := ⟨_, rfl⟩
      have hn1 : n ≤ u.size ∧ n ≤ 64 - a ∧ 0 < n ∧ (n = u.size ∨ n = 64 - a) := by
        rw [← hn]
        have e : Nat.min u.size (64 - a) = min u.size (64 - a) := rfl
        rw [e]; omega
      have hut : (u.data.toList.take n).length = n := by rw [List.length_take]; omega
      have hcp := run_copy_min (P := Tryd.prog) wr 33 9 3 5 b (10 + a) (64 - a) (64 - a) n u _ 42 Tryd.underlying33 sizeByte X hn (by rw [hashA_size, h1]; omega)
      have hov := hashA_over true (stOf L) L.length r a (u.data.toList.take n) (by omega)
      rw [hut] at hov
      rw [hov] at hcp
      clear hov
      have hus : u.data.toList = u.data.toList.take n ++ (u.extract n u.size).data.toList := by
        rw [ByteArray.data_extract, Array.toList_extract]
        rw [List.extract_eq_take_drop, List.take_of_length_le (l := List.drop _ _) (by rw [List.length_drop]; omega), List.take_append_drop]
      have HU : Hid _ := hus
      clear hus
      generalize hr' : over r a (u.data.toList.take n) = r' at *
      have HR : Hid _ := hr'
      have hr1' : r'.length = 64 := by rw [← hr', over_length _ _ _ (by omega), h1]
      clear hr'
      obtain ⟨W1, hW1⟩ : ∃ W1, wr.setRow b (hashA true (stOf L) L.length r') = W1 := ⟨_, rfl⟩
      have X1 : Blk W1 b (hashA true (stOf L) L.length r') 42 := by rw [← hW1]; exact X.setRow _
      have o1 : Off b w W1 := by rw [← hW1]; exact ho.setRow _
      have d9 : W1.cell? ⟨b, 9, none⟩ = some (.int .u64 (L.length : Int)) := X1.cell rfl
      have f9 := X1.frozen (o := 9)
      have X2 := X1.set 9 (.int .u64 ((L.length + n : Nat) : Int))
      rw [hashA_grow] at X2
      have e2 : ((L.length + n : Nat) : Int) = (L.length : Int) + (n : Int) := by omega
      rw [e2] at X2
      have o2 := o1.setCell (p := ⟨b, 9, none⟩) rfl (.int .u64 ((L.length : Int) + (n : Int)))
      by_cases han : a + n < 64
      · have hne : ((L.length : Int) + (n : Int)) % 64 ≠ 0 := by omega
        go_wp2
        obtain ⟨g1, g2⟩ := goes_on L r (u.data.toList.take n) h2 h1 (by omega)
        refine ⟨⟨t ++ u.data.toList.take n, u.extract n u.size, rfl, ?_, o2, ?_⟩, ?_⟩
        · rw [hsp, List.append_assoc, ← HU.out]
        · rw [← List.append_assoc, HL.out]
          refine ⟨r', hr1', ?_, ?_⟩
          · rw [← HR.out]; rw [ha] at g2; exact g2
          · rw [g1, List.length_append, hut]; exact X2
        · simp only [ByteArray.size_extract]; omega
      · have hne : ((L.length : Int) + (n : Int)) % 64 = 0 := by omega
        obtain ⟨g1, g2⟩ := goes_over L r (u.data.toList.take n) h2 h1 (by omega)
        rw [ha, HR.out] at g1 g2
        obtain ⟨W2, hW2⟩ : ∃ W2, W1.setCell ⟨b, 9, none⟩ (.int .u64 ((L.length : Int) + (n : Int))) = W2 := ⟨_, rfl⟩
        rw [hW2] at X2 o2
        have K2 : KT W2.drew := hK.off o2.drew hg
        have hfit : (stOf L).fits := comps_fits _ h0s_fits _ _
        have c9' : W2.cell? ⟨b, 9, none⟩ = some (.int .u64 ((L.length : Int) + (n : Int))) := X2.cell (by rw [← e2]; rfl)
        have hr10 : W2.rangeAt b 10 (Lib.byteCells r') := hash_rest X2
        have hbl : (Lib.byteCells r').length = 64 := by rw [Lib.byteCells_length, hr1']
        have hbi : (Tryd.prog.info? 40).map (·.size) = some (Lib.byteCells r').length := by rw [hbl]; kernel_rfl
        have HA := fun wx (hk : KT wx) => after_calls (stOf L) r' wx hfit hr1' hk
        have HA' : Hid _ := HA
        clear HA
        have hl38 : (Instr.loadAt 38 (.pointer (some ⟨b, 1, none⟩))).run Tryd.prog { W2 with drawn := W2.drawn + 1 } = .ok (.agg (woA (stL (stOf L)))) { W2 with drawn := W2.drawn + 1 } :=
          run_loadAt_mid (P := Tryd.prog) W2.drew b 1 38 ((stL (stOf L)).map fun x : Nat => Value.int .u32 (x : Int)) _ (hash_state X2) Tryd.underlying38 rfl (by kernel_rfl)
        have hl40 : (Instr.loadAt 40 (.pointer (some ⟨b, 10, none⟩))).run Tryd.prog { W2 with drawn := W2.drawn + 1 } = .ok (.agg (byA r')) { W2 with drawn := W2.drawn + 1 } :=
          run_loadAt_mid (P := Tryd.prog) W2.drew b 10 40 (Lib.byteCells r') _ hr10 Tryd.underlying40 rfl hbi
        generalize stOf L = S0 at *
        go_wp2
        refine wp_region_any (by kernel_rfl) ?_
        change wpAny _ _ _ _ _ _ _ (World.drew _)
        refine wpAny_take (i := 0) (v := .pointer (some ⟨b, 0, none⟩)) rfl (by kernel_rfl) (by kernel_rfl) (by kernel_rfl) (fun _ _ _ h => h) (Or.inl ⟨by rfl, fun w => by go_simp⟩) ?_
        refine wpAny_take (i := 1) (v := .pointer (some ⟨b, 0, none⟩)) rfl (by kernel_rfl) (by kernel_rfl) (by kernel_rfl) (fun _ _ _ h => h) (Or.inl ⟨by rfl, fun w => by go_simp⟩) ?_
        refine wpAny_take (i := 2) (v := .pointer (some ⟨b, 0, none⟩)) rfl (by kernel_rfl) (by kernel_rfl) (by kernel_rfl) (fun _ _ _ h => h) (Or.inl ⟨by rfl, fun w => by go_simp⟩) ?_
        refine wpAny_take (i := 3) (v := .pointer (some ⟨b, 1, none⟩)) rfl (by kernel_rfl) (by kernel_rfl) (by kernel_rfl) (fun _ _ _ h => h) (Or.inl ⟨by rfl, fun w => by go_simp⟩) ?_
        refine wpAny_take (i := 5) (v := .pointer (some ⟨b, 0, none⟩)) rfl (by kernel_rfl) (by kernel_rfl) (by kernel_rfl) (fun _ _ _ h => h) (Or.inl ⟨by rfl, fun w => by go_simp⟩) ?_
        refine wpAny_take (i := 6) (v := .pointer (some ⟨b, 0, none⟩)) rfl (by kernel_rfl) (by kernel_rfl) (by kernel_rfl) (fun _ _ _ h => h) (Or.inl ⟨by rfl, fun w => by go_simp⟩) ?_
        refine wpAny_take (i := 7) (v := .pointer (some ⟨b, 10, none⟩)) rfl (by kernel_rfl) (by kernel_rfl) (by kernel_rfl) (fun _ _ _ h => h) (Or.inl ⟨by rfl, fun w => by go_simp⟩) ?_
        refine wpAny_ready (rs := [4, 8]) (by kernel_rfl) (by simp) ?_
        refine allReady_load 4 38 (.tmp 51) (some 52) (by kernel_rfl) hl38 (by kernel_rfl) (wpAny_ready (rs := [8]) (by kernel_rfl) (by simp) (allReady_load 8 40 (.tmp 55) (some 56) (by kernel_rfl) hl40 (by kernel_rfl) ?_ AllReady.nil))
          (allReady_load 8 40 (.tmp 55) (some 56) (by kernel_rfl) hl40 (by kernel_rfl) (wpAny_ready (rs := [4]) (by kernel_rfl) (by simp) (allReady_load 4 38 (.tmp 51) (some 52) (by kernel_rfl) hl38 (by kernel_rfl) ?_ AllReady.nil)) AllReady.nil)
        all_goals
          refine wpAny_ready (rs := [9]) (by kernel_rfl) (by simp) ?_
          refine AllReady.cons rfl (fun K hK => ?_) AllReady.nil
          go_simp
          refine (HA'.out _ K2).mono ?_
          rintro e w3 ⟨rfl, hb3⟩
          refine hK _ _ ?_
          clear hK
          have X3 : Blk w3 b (hashA true S0 (L.length + n) r') 42 := X2.drew.below hb3
          have hzR : (Tryd.prog.info? 38).map (·.size) = some (woA (stL (comp S0 (wordAt r')))).size := by rw [woA_size]; kernel_rfl
          have hzF : 1 + (woA (stL (comp S0 (wordAt r')))).size ≤ (hashA true S0 (L.length + n) r').size := by rw [woA_size, hashA_size, hr1', stL_length]; omega
          have hoR := woA_one (stL (comp S0 (wordAt r')))
          have HS3 : Hid _ := hashA_state true S0 (comp S0 (wordAt r')) (L.length + n) r'
          refine wpAny_ready (rs := [10]) (by kernel_rfl) (by simp) ?_
          refine AllReady.cons rfl (fun K hK => ?_) AllReady.nil
          go_simp
          refine hK _ _ ?_
          clear hK
          refine wpAny_ready (rs := [11]) (by kernel_rfl) (by simp) ?_
          refine AllReady.cons rfl (fun K hK => ?_) AllReady.nil
          go_simp
          refine hK _ _ ?_
          clear hK
          refine wpAny_ready (rs := [12]) (by kernel_rfl) (by simp) ?_
          refine allReady_storeMid 12 38 (.tmp 59) (.tmp 57) none 1 (by kernel_rfl) X3 hzR hzF hoR (by kernel_rfl) (by kernel_rfl) ?_ AllReady.nil
          rw [HS3.out]
          refine wpAny_done (by kernel_rfl) ?_ _
          go_simp
          go_wp2
          have o3 : Off b w w3 := o2.drew.trans (Off.of_below hb3)
          refine ⟨⟨t ++ u.data.toList.take n, u.extract n u.size, rfl, ?_, o3.setRow _, ?_⟩, ?_⟩
          · rw [hsp, List.append_assoc, ← HU.out]
          · rw [← List.append_assoc, HL.out]
            refine ⟨r', hr1', g2, ?_⟩
            rw [g1, List.length_append, hut]; exact X3.setRow _
          · simp only [ByteArray.size_extract]; omega
    · have hu0 : u.data.toList = [] := List.eq_nil_of_length_eq_zero (by omega)
      rw [hu0, List.append_nil] at hsp
      have HS : Hid (s.data.toList = t) := hsp
      clear hsp hu0
      go_wp2
      exact ⟨rfl, .tuple #[], by rw [results_none Tryd.results16], ⟨_, rfl⟩, ho, by rw [HS.out]; exact hH⟩
end Go.Proofs.YtdkkleikabipgaaDoor
