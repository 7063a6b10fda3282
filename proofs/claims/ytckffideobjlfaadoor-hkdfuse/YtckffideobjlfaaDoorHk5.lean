/-
  Contract of layer 4 (hkdf): a use's key. No statement of the seed is proved here.
-/
import Derived.Test.YtckffideobjlfaaDoorHk4
namespace Go.Proofs.YtckffideobjlfaaDoor
open Go.RowKit
set_option linter.unusedVariables false

theorem results_blk2 {P : Program} {w : World} {fn : Func} {p u : Tmp} {ty : TypeId} (h : fn.results = #[.cell p ty, .tmp u]) (tmps : Array Value) (g : Nat) (t : TypeId) (cs : List Value) (d : TypeDesc) (v : Value)
    (hp : tmps.getD p undef = .pointer (some ⟨g, 0, none⟩)) (hv : tmps.getD u undef = v) (hg : Blk w g t cs)
    (hu : P.underlying ty = some d) (hd : d.isRow = true) (hi : (P.info? ty).map (·.size) = some cs.length) :
    (results fn tmps).run P w = .ok (.tuple #[.agg cs.toArray, v]) w := by
  have hp' : tmps[p]?.getD undef = .pointer (some ⟨g, 0, none⟩) := by simpa using hp
  have hv' : tmps[u]?.getD undef = v := by simpa using hv
  simp [results, h, hp', hv', asAddr, run_loadVar_row w g t ty cs.toArray (0, 0) d hg hu (by cases d <;> simp_all [TypeDesc.isRow]) (by simpa using hi)]

/-- What every use's key is extracted with. -/
def useSalt : List UInt8 := [115, 99, 114, 105, 110, 105, 117, 109]
@[irreducible] def useInfo (name : List UInt8) (gen : Nat) : List UInt8 := name ++ [0] ++ be 4 gen
@[irreducible] def useK (key name : List UInt8) (gen : Int) : List UInt8 :=
  if nameOk name = true ∧ 0 ≤ gen ∧ gen ≤ 4294967295 then hkE (hTag useSalt key) (useInfo name gen.toNat) 32 else List.replicate 32 0
def useE (name : List UInt8) (gen : Int) : Nat := if nameOk name = true then (if 0 ≤ gen ∧ gen ≤ 4294967295 then 0 else 14) else 5
theorem useK_length (key name : List UInt8) (gen : Int) : (useK key name gen).length = 32 := by
  unfold useK
  split
  · exact hkE_length (by omega)
  · simp
def UseRet (k : List UInt8) (er : Nat) (w : World) (e : Ending) (w' : World) : Prop := e = .returned (.tuple #[.agg (bvs k).toArray, .int .i64 er]) ∧ Kept [] w w'
theorem zeroW : (Tryd.prog.info? 44).bind (·.zero) = some (.agg [Value.slice none 0 0].toArray) := by kernel_rfl
theorem useInfo_eq (name : List UInt8) (gen : Nat) : [name, [0], be 4 gen].flatten = useInfo name gen := by unfold useInfo; simp
theorem useInfo_length (name : List UInt8) (gen : Nat) : (useInfo name gen).length = name.length + 5 := by unfold useInfo; simp [be_length]

set_option maxRecDepth 100000 in
set_option maxHeartbeats 4000000 in
theorem use_any (key : List UInt8) (s : ByteArray) (gen : Int) (w : World) (hgl : Glob w) (hkl : key.length = 32) (hs : s.size ≤ 1000) (hg0 : -9223372036854775808 ≤ gen) (hg1 : gen ≤ 9223372036854775807) :
    Calls Tryd.prog 12 #[.agg (bvs key).toArray, .string s, .int .i64 gen] w (UseRet (useK key (strL s) gen) (useE (strL s) gen) w) := by
  have hB := Blk.new w 25 (bvs key)
  have hK1 : Kept [] w (w.alloc (.cells (bvs key).toArray 25)) := (Kept.refl [] w).alloc _
  have hs1 : (w.alloc (.cells (bvs key).toArray 25)).heap.size = w.heap.size + 1 := by simp
  have Hkl := Lib.hid hkl
  go_enter Tryd.func12, Tryd.ntmps12
  go_wp2_with (first
    | (with_reducible change wpList _ _ _ (⟨_, Op.box _ _, _, _, _, _⟩ :: _) _ _; refine Great.wpList_boxTo rfl 25 _ rfl _ rfl w.heap.size rfl (bvs key).toArray rfl ?_; generalize w.alloc (.cells (bvs key).toArray 25) = w1 at *)
    | (with_reducible change wpList _ _ _ (⟨_, Op.alloc _, _, _, _, _⟩ :: _) _ _; refine wpList_alloc_blk rfl 25 rfl _ zero32 ?_))
  intro w2 hR2 hk2 hs2
  have hB2 := hB.kept0 hk2
  have hK2 := hK1.andThen hk2
  obtain ⟨g3, hg3⟩ : ∃ g, g = w.heap.size := ⟨_, rfl⟩
  obtain ⟨g6, hg6⟩ : ∃ g, g = w.heap.size + 1 := ⟨_, rfl⟩
  rw [← hg6] at hR2 ⊢
  rw [← hg3] at hB2 ⊢
  have hw3 : w.heap.size ≤ g3 := by omega
  have hw6 : w.heap.size ≤ g6 := by omega
  have h36 : g3 ≠ g6 := by omega
  clear hB hK1 hk2 hs2 hs1 hg3 hg6 hkl
  go_wp2_with fail
  refine (nameRight_any s _).mono ?_
  rintro e w4 ⟨rfl, hk4⟩
  have hB4 := hB2.kept0 hk4
  have hR4 := hR2.kept0 hk4
  have hK4 := hK2.andThen hk4
  clear hB2 hR2 hK2 hk4
  obtain ⟨q, hq⟩ : ∃ q, q = nameOk (strL s) := ⟨_, rfl⟩
  cases q
  · have HU : Hid (useK key (strL s) gen = List.replicate 32 0 ∧ useE (strL s) gen = 5) := Lib.hid (by unfold useK useE; rw [← hq]; simp)
    rw [← hq]
    clear hq
    go_wp2_with (first
      | (with_reducible change wpList _ _ _ (⟨_, Op.build _ _, _, _, _, _⟩ :: _) _ _; refine wpList_buildTo rfl 25 _ rfl _ rfl (zb 32).toArray (by simpa [Act.eval, Act.put] using builtKey) ?_)
      | (with_reducible change wpList _ _ _ (⟨_, Op.store _ _ _, _, _, _, _⟩ :: _) _ _; refine wpList_store_blk rfl 25 (.tmp 6) (.tmp 16) rfl g6 (zb 32) rfl rfl 25 (zb 32) hR4 zb_size rfl zb_one ?_))
    intro w5 hR5 hk5 hs5
    go_wp2
    refine bodyPost_ret (results_blk2 rfl _ g6 25 _ _ _ rfl rfl hR5 arr32b rfl zb_size) rfl ?_
    exact ⟨by rw [HU.out.1, HU.out.2]; rfl, hK4.trans hk5 (by simp; omega)⟩
  · have hq2 := Lib.hid hq
    rw [← hq]
    clear hq
    go_wp2_with (with_reducible change wpList _ _ _ (⟨_, Op.alloc _, _, _, _, _⟩ :: _) _ _; refine wpList_alloc_blk rfl 44 rfl _ zeroW ?_)
    intro w5 hW5 hk5 hs5
    obtain ⟨g8, hg8⟩ : ∃ g, g = w4.heap.size := ⟨_, rfl⟩
    rw [← hg8] at hW5 ⊢
    have hw8 : w.heap.size ≤ g8 := by have := hK4.size; omega
    have h38 : g3 ≠ g8 := by have := hB4.lt; omega
    have h68 : g6 ≠ g8 := by have := hR4.lt; omega
    have hWr : Wri w5 g8 [g8] [] := ⟨_, hW5, OwB.nil _ _, rfl⟩
    have hB5 := hB4.kept0 hk5
    have hR5 := hR4.kept0 hk5
    have hK5 := hK4.andThen hk5
    clear hB4 hR4 hK4 hk5 hs5 hg8 hW5
    by_cases hgen : 0 ≤ gen ∧ gen ≤ 4294967295
    · have HU : Hid (useK key (strL s) gen = hkE (hTag useSalt key) (useInfo (strL s) gen.toNat) 32 ∧ useE (strL s) gen = 0) := Lib.hid (by unfold useK useE; rw [← hq2.out, if_pos ⟨rfl, hgen⟩, if_pos rfl, if_pos hgen]; exact ⟨rfl, rfl⟩)
      obtain ⟨g0, g1⟩ := hgen
      have hwr : IntKind.u64.wrap gen = gen := by simp [IntKind.wrap, IntKind.bits, IntKind.signed]; omega
      have hx : gen.toNat < 256 ^ 4 := by omega
      have HX := Lib.hid hx
      clear hq2 hx
      go_wp2_with fail
      refine (wNum_any g8 [g8] [] gen 4 _ hWr (by omega) (by omega) (by omega) (by omega) HX.out (by simp)).mono ?_
      rintro e w6 ⟨rfl, F6, hP6⟩
      have hWr6 := hP6.wri
      rw [List.nil_append] at hWr6
      have hK6 : Kept [] w w6 := hK5.trans hP6.kept (by simp; omega)
      have hB6 := hB5.kept hP6.kept (by simpa using h38)
      have hR6 := hR5.kept hP6.kept (by simpa using h68)
      clear hWr hB5 hR5 hK5 hP6 hwr HX
      go_wp2_with (with_reducible change wpList _ _ _ (⟨_, Op.convert _ _ _, _, _, _, _⟩ :: _) _ _; refine wpList_conv_bytes rfl 9 22 (.tmp 22) rfl 5 s rfl Tryd.underlying9 Tryd.underlying22 Tryd.underlying5 (by simp only [maxLen]; omega) ?_)
      intro c7 w7 hr7 hk7 hs7
      obtain ⟨g9, hg9⟩ : ∃ g, g = w6.heap.size := ⟨_, rfl⟩
      rw [← hg9] at hr7 ⊢
      have hk7a : Kept [] w6 (w7.alloc (.cells #[.int .u8 0] 5)) := hk7.alloc _
      have hr0 := RdB.one w7 5 0 0 rfl
      have hr7a := hr7.alloc (.cells #[.int .u8 0] 5)
      have hWr7 := hWr6.kept0 hk7a
      have hK7 := hK6.andThen hk7a
      have hB7 := hB6.kept0 hk7a
      have hR7 := hR6.kept0 hk7a
      have HR0 := Lib.hid hr0
      have HR7 := Lib.hid hr7a
      have HW7 := Lib.hid hWr7
      have HK7 := Lib.hid hK7
      have HB7 := Lib.hid hB7
      have HRr := Lib.hid hR7
      clear hg9 hs7 hr0 hr7a hWr7 hK7 hB7 hR7 hr7 hk7 hk7a hWr6 hK6 hB6 hR6
      go_wp2_with fail
      refine (wOut_any g8 F6 _ _ HW7.out (by rw [be_length]; omega)).mono ?_
      rintro e w8 ⟨v8, rfl, ho8, hk8, hb8⟩
      obtain ⟨A8, n8, c8, rfl, hr8, _⟩ := ho8.form
      have hL8 := RdL.three 22 (HR7.out.kept0 hk8) (HR0.out.kept0 hk8) hr8
      have hA8 : Kept [] w8 (w8.alloc (.cells #[.slice (some ⟨g9, 0, none⟩) s.size c7, .slice (some ⟨w7.heap.size, 0, none⟩) 1 1, .slice A8 n8 c8] 22)) := (Kept.refl [] w8).alloc _
      have HL8 := Lib.hid hL8
      have HA8 := Lib.hid (hk8.andThen hA8)
      clear hL8 hA8 hk8 ho8 hr8 hb8
      go_wp2_with fail
      refine (concat_any _ 3 3 [strL s, [0], be 4 gen.toNat] _ HL8.out (by rw [useInfo_eq, useInfo_length, strL_length]; omega)).mono ?_
      rw [useInfo_eq]
      rintro e w9 ⟨v9, rfl, ho9, hk9, hb9⟩
      obtain ⟨A9, n9, c9, rfl, hr9, _⟩ := ho9.form
      have hn9 : n9 ≤ 2000 := by have := hr9.len; rw [useInfo_length, strL_length] at this; omega
      have hkk := HA8.out.andThen hk9
      have hK9 := HK7.out.andThen hkk
      have hB9 := HB7.out.kept0 hkk
      have hR9 := HRr.out.kept0 hkk
      clear ho9 hb9 hk9 hkk HL8 HA8 HR7 HR0 HW7 HK7 HB7 HRr
      go_wp2_with (with_reducible change wpList _ _ _ (⟨_, Op.alloc _, _, _, _, _⟩ :: _) _ _; refine wpList_alloc_blk rfl 25 rfl _ zero32 ?_)
      intro w10 hG10 hk10 hs10
      obtain ⟨g10, hg10⟩ : ∃ g, g = w9.heap.size := ⟨_, rfl⟩
      rw [← hg10] at hG10 ⊢
      have hw10 : w.heap.size ≤ g10 := by have := hK9.size; omega
      have h610 : g6 ≠ g10 := by have := hR9.lt; omega
      have hK10 := hK9.andThen hk10
      have hB10 := hB9.kept0 hk10
      have hR10 := hR9.kept0 hk10
      have hr10 := hr9.kept0 hk10
      clear hs10 hg10 hK9 hB9 hR9 hr9 hk10
      have hcutK := fun g => run_cut_all (P := Tryd.prog) 25 5 32 g 0 arr32b size1b (by omega)
      have kc := Lib.run_convert_bytes_const (P := Tryd.prog) w10 22 5 #[.int .u8 115, .int .u8 99, .int .u8 114, .int .u8 105, .int .u8 110, .int .u8 105, .int .u8 117, .int .u8 109] 8 8 Tryd.underlying22 Tryd.underlying5
      have R1 : Hid (RdB (w10.alloc (.cells #[.int .u8 115, .int .u8 99, .int .u8 114, .int .u8 105, .int .u8 110, .int .u8 105, .int .u8 117, .int .u8 109] 5 (8, 9))) (some ⟨w10.heap.size, 0, none⟩) 8 8 useSalt) := Lib.hid (RdB.marked w10 5 #[.int .u8 115, .int .u8 99, .int .u8 114, .int .u8 105, .int .u8 110, .int .u8 105, .int .u8 117, .int .u8 109] (8, 9) 8 useSalt rfl rfl (by simp [maxLen]))
      have K1 : Hid (Kept [] w10 (w10.alloc (.cells #[.int .u8 115, .int .u8 99, .int .u8 114, .int .u8 105, .int .u8 110, .int .u8 105, .int .u8 117, .int .u8 109] 5 (8, 9)))) := Lib.hid ((Kept.refl [] w10).alloc _)
      go_wp2_with fail
      refine (hkX_any _ _ 8 8 32 32 useSalt key _ R1.out ((hB10.kept0 K1.out).all 32 Hkl.out (by omega)) ((hgl.kept0 hK10).kept0 K1.out) (by omega) (by omega)).mono ?_
      rintro e w11 ⟨rfl, hk11⟩
      have hkk := K1.out.andThen hk11
      have hK11 := hK10.andThen hkk
      have hG11 := hG10.kept0 hkk
      have hR11 := hR10.kept0 hkk
      have hr11 := hr10.kept0 hkk
      clear hkk hk11 K1 R1 kc hK10 hG10 hR10 hr10 hB10
      go_wp2_with fail
      refine (hkEF_any (hTag useSalt key) (useInfo (strL s) gen.toNat) A9 n9 c9 32 _ (hTag_length _ _) hr11 (hgl.kept0 hK11) (by omega) (by omega)).mono ?_
      rintro e w12 ⟨A12, n12, c12, rfl, hr12, hk12⟩
      have hn12 : n12 = 32 := by have := hr12.len; rw [hkE_length (by omega)] at this; omega
      subst hn12
      have hK12 := hK11.andThen hk12
      have hG12 := hG11.kept0 hk12
      have hR12 := hR11.kept0 hk12
      have ht : (hkE (hTag useSalt key) (useInfo (strL s) gen.toNat) 32).length = 32 := hkE_length (by omega)
      rw [← HU.out.1] at hr12 ht
      have Ht := Lib.hid ht
      clear hk12 hK11 hG11 hR11 hr11 ht
      go_wp2_with (with_reducible change wpList _ _ _ (⟨_, Op.call _, _, _, _, _⟩ :: _) _ _; refine wpList_copy_blk rfl (.tmp 37) (.tmp 38) 22 rfl 5 Tryd.underlying22 size1b g10 0 32 32 A12 32 c12 _ rfl rfl hr12 (by omega) 25 _ hG12 32 rfl (by rw [zb_length]; omega) ?_)
      intro w13 hG13 hk13
      have hG14 : Blk w13 g10 25 (bvs (useK key (strL s) gen)) := by
        refine hG13.of_eq ?_
        have h1 := Ht.out
        unfold splice
        rw [List.take_zero, List.nil_append, List.take_of_length_le (by omega), List.drop_eq_nil_of_le (by rw [zb_length, bvs_length]; omega), List.append_nil]
      have hK13 : Kept [] w w13 := hK12.trans hk13 (by simp; omega)
      have hR13 := hR12.kept hk13 (by simpa using h610)
      clear hG13 hk13 hK12 hR12 hr12 hG12
      go_wp2_with (first
        | (with_reducible change wpList _ _ _ (⟨_, Op.load _ _, _, _, _, _⟩ :: _) _ _; refine wpList_load_blk rfl 25 (.tmp 10) rfl g10 rfl 25 _ _ hG14 arr32b rfl (size_of_len size32 Ht.out) ?_)
        | (with_reducible change wpList _ _ _ (⟨_, Op.store _ _ _, _, _, _, _⟩ :: _) _ _; refine wpList_store_blk rfl 25 (.tmp 6) (.tmp 40) rfl g6 (bvs (useK key (strL s) gen)) rfl rfl 25 (zb 32) hR13 (size_of_len size32 Ht.out) (zb_len Ht.out) (bvs_one _) ?_))
      intro w14 hR14 hk14 hs14
      go_wp2
      refine bodyPost_ret (results_blk2 rfl _ g6 25 _ _ _ rfl rfl hR14 arr32b rfl (size_of_len size32 Ht.out)) rfl ?_
      exact ⟨by rw [HU.out.2]; rfl, hK13.trans hk14 (by simp; omega)⟩
    · have HU : Hid (useK key (strL s) gen = List.replicate 32 0 ∧ useE (strL s) gen = 14) := Lib.hid (by unfold useK useE; rw [← hq2.out, if_neg (fun h => hgen h.2), if_pos rfl, if_neg hgen]; exact ⟨rfl, rfl⟩)
      obtain ⟨x, hx⟩ : ∃ x : Int, x = IntKind.u64.wrap gen := ⟨_, rfl⟩
      have hx0 : 0 ≤ x ∧ x ≤ 18446744073709551615 ∧ 256 ^ 4 ≤ x.toNat := by
        rw [hx]
        simp [IntKind.wrap, IntKind.bits, IntKind.signed]
        omega
      obtain ⟨x0, x1, x2⟩ := hx0
      have HX := Lib.hid x2
      clear hq2 x2 hgen
      go_wp2_with fail
      rw [← hx]
      refine (wNum_range g8 x 4 _ x0 x1 (by omega) (by omega) HX.out).mono ?_
      rintro e w6 ⟨rfl, rfl⟩
      clear hx
      go_wp2_with (first
        | (with_reducible change wpList _ _ _ (⟨_, Op.build _ _, _, _, _, _⟩ :: _) _ _; refine wpList_buildTo rfl 25 _ rfl _ rfl (zb 32).toArray (by simpa [Act.eval, Act.put] using builtKey) ?_)
        | (with_reducible change wpList _ _ _ (⟨_, Op.store _ _ _, _, _, _, _⟩ :: _) _ _; refine wpList_store_blk rfl 25 (.tmp 6) (.tmp 21) rfl g6 (zb 32) rfl rfl 25 (zb 32) hR5 zb_size rfl zb_one ?_))
      intro w7 hR7 hk7 hs7
      go_wp2
      refine bodyPost_ret (results_blk2 rfl _ g6 25 _ _ _ rfl rfl hR7 arr32b rfl zb_size) rfl ?_
      exact ⟨by rw [HU.out.1, HU.out.2]; rfl, hK5.trans hk7 (by simp; omega)⟩
end Go.Proofs.YtckffideobjlfaaDoor
