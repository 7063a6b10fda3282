/-
  The walk of a law of layer 5: by one key unlike blocks are encrypted to unlike ones, and one block to one. No statement of the seed is proved here.
-/
import Derived.Test.YticjdmdbjhbddaaLaw5a
namespace Go.Proofs.Yticjdmdbjhbddaa
open Go.RowKit
set_option linter.unusedVariables false

theorem run_eql16 (o : Oper) (ev : Operand → Value) (x y : Operand) (u : TypeId) (ho : o.op = .binOp .eql 24 x y u) (l m : List UInt8) (hl : l.length = 16) (hm : m.length = 16)
    (hx : ev x = .agg (bvs l).toArray) (hy : ev y = .agg (bvs m).toArray) (w : World) : (execOp ev o).run Try.prog w = .ok (.value (.bool (l == m))) w := by
  have hg := run_eqGuard_agg (P := Try.prog) w .eql 24 x y (bvs l).toArray (bvs m).toArray (by kernel_rfl)
  have he := run_eql_bytes (P := Try.prog) w 24 5 16 arr16b und8 size_run8 l m hl hm
  have he2 : (binOp .eql 24 (.agg (bvs l).toArray) (.agg (bvs m).toArray)).run Try.prog w = .ok (.bool (l == m)) w := he
  unfold execOp
  simp only [ho, hx, hy, Sem.run_bind, hg, Result.andThen_ok, he2, Sem.run_pure]

set_option maxRecDepth 100000 in
set_option maxHeartbeats 2000000 in
theorem apart_walk (key x y : List UInt8) (w : World) (hkl : key.length = 32) (hxl : x.length = 16) (hyl : y.length = 16) :
    Calls Try.prog 5 #[.agg (bvs key).toArray, .agg (bvs x).toArray, .agg (bvs y).toArray] w fun e w' => e = .returned (.bool true) ∧ Kept [] w w' := by
  have Hkl := Lib.hid hkl
  have Hxl := Lib.hid hxl
  have Hyl := Lib.hid hyl
  have Hsk := Lib.hid (size_of_len (P := Try.prog) (ty := 23) sizeKey hkl)
  have Hsx := Lib.hid (size_of_len (P := Try.prog) (ty := 24) size16 hxl)
  have Hsy := Lib.hid (size_of_len (P := Try.prog) (ty := 24) size16 hyl)
  have HE : Hid (((aesBlock (aesWords key) x == aesBlock (aesWords key) y) == (x == y)) = true) := by
    refine Lib.hid ?_
    by_cases h : x = y
    · subst h; simp
    · have h2 : aesBlock (aesWords key) x ≠ aesBlock (aesWords key) y := fun e => h (aesBlock_inj hxl hyl e)
      rw [beq_eq_false_iff_ne.2 h2, beq_eq_false_iff_ne.2 h]; rfl
  have HX := Lib.hid (aesBlock_length (aesWords key) x)
  have HY := Lib.hid (aesBlock_length (aesWords key) y)
  have hA0 := Blk.new w 23 (bvs key)
  have kA : Kept [] w (w.alloc (.cells (bvs key).toArray 23)) := (Kept.refl [] w).alloc _
  have sA : (w.alloc (.cells (bvs key).toArray 23)).heap.size = w.heap.size + 1 := by simp
  obtain ⟨w1, hw1⟩ : ∃ w1, w1 = w.alloc (.cells (bvs key).toArray 23) := ⟨_, rfl⟩
  rw [← hw1] at hA0 kA sA
  have hB0 := Blk.new w1 24 (bvs x)
  have kB : Kept [] w1 (w1.alloc (.cells (bvs x).toArray 24)) := (Kept.refl [] w1).alloc _
  have sB : (w1.alloc (.cells (bvs x).toArray 24)).heap.size = w1.heap.size + 1 := by simp
  obtain ⟨w2, hw2⟩ : ∃ w2, w2 = w1.alloc (.cells (bvs x).toArray 24) := ⟨_, rfl⟩
  rw [← hw2] at hB0 kB sB
  have hC0 := Blk.new w2 24 (bvs y)
  have kC : Kept [] w2 (w2.alloc (.cells (bvs y).toArray 24)) := (Kept.refl [] w2).alloc _
  obtain ⟨w3, hw3⟩ : ∃ w3, w3 = w2.alloc (.cells (bvs y).toArray 24) := ⟨_, rfl⟩
  rw [← hw3] at hC0 kC
  have hA := (hA0.kept0 kB).kept0 kC
  have hB := hB0.kept0 kC
  have hC := hC0
  have hK3 := (kA.andThen kB).andThen kC
  obtain ⟨a, ha⟩ : ∃ a, a = w.heap.size := ⟨_, rfl⟩
  obtain ⟨b, hb⟩ : ∃ b, b = w1.heap.size := ⟨_, rfl⟩
  obtain ⟨c, hc⟩ : ∃ c, c = w2.heap.size := ⟨_, rfl⟩
  rw [← ha] at hA
  rw [← hb] at hB
  rw [← hc] at hC
  have W1 := Lib.hid hw1
  have W2 := Lib.hid hw2
  have W3 := Lib.hid hw3
  have A0 := Lib.hid ha
  have B0 := Lib.hid hb
  have C0 := Lib.hid hc
  clear hA0 kA sA hB0 kB sB hC0 kC hw1 hw2 hw3 ha hb hc hkl hxl hyl
  go_enter Try.func5, Try.ntmps5
  go_wp2_with (first
    | (with_reducible change wpList _ _ _ (⟨_, Op.box _ (Operand.tmp 0), _, _, _, _⟩ :: _) _ _; refine Great.wpList_boxTo rfl 23 _ rfl _ rfl a A0.out.symm (bvs key).toArray rfl ?_; rw [← W1.out])
    | (with_reducible change wpList _ _ _ (⟨_, Op.box _ (Operand.tmp 1), _, _, _, _⟩ :: _) _ _; refine Great.wpList_boxTo rfl 24 _ rfl _ rfl b B0.out.symm (bvs x).toArray rfl ?_; rw [← W2.out])
    | (with_reducible change wpList _ _ _ (⟨_, Op.box _ (Operand.tmp 2), _, _, _, _⟩ :: _) _ _; refine Great.wpList_boxTo rfl 24 _ rfl _ rfl c C0.out.symm (bvs y).toArray rfl ?_; rw [← W3.out]))
  clear A0 B0 C0
  refine (wakes5_any _).mono ?_
  rintro e w4 ⟨rfl, hk4⟩
  have hA4 := hA.kept0 hk4
  have hB4 := hB.kept0 hk4
  have hC4 := hC.kept0 hk4
  have hK4 := hK3.andThen hk4
  clear hA hB hC hK3 hk4 W1 W2 W3
  go_wp2_with (with_reducible change wpList _ _ _ (⟨_, Op.load _ _, _, _, _, _⟩ :: _) _ _; refine wpList_load_blk rfl 23 (.tmp 3) rfl a rfl 23 _ _ hA4 arrKey rfl Hsk.out ?_)
  refine (new_any key _ Hkl.out).mono ?_
  rintro e w5 ⟨p, rfl, hb5, hp5, hk5⟩
  have hB5 := hB4.kept0 hk5
  have hC5 := hC4.kept0 hk5
  have hK5 := hK4.andThen hk5
  clear hA4 hB4 hC4 hK4 hk5 hp5
  generalize aesWords key = K at *
  have SK := Lib.hid (fun W (h : Kept [] w5 W) => And.intro (hB5.kept0 h).rangeOf (hC5.kept0 h).rangeOf)
  have HB := Lib.hid (fun W (h : Kept [] w5 W) => hb5.kept0 h)
  clear hB5 hC5 hb5
  go_wp2
  have hHeld := SK.out _ (Kept.refl [] w5).drew
  have hb6 := HB.out _ (Kept.refl [] w5).drew
  refine wp_region_begin (fun w' => w'.rangeAt b 0 (bvs x) ∧ w'.rangeAt c 0 (bvs y)) (by kernel_rfl) ?_
  refine held_pure 0 (.pointer (some ⟨p, 0, none⟩)) rfl (by kernel_rfl) (by kernel_rfl) (by kernel_rfl) rfl (fun w _ => rfl) hHeld ?_
  refine held_load 1 rfl (by kernel_rfl) (by kernel_rfl) (by kernel_rfl) rfl 24 (.tmp 4) rfl b 0 rfl (bvs x) _ (fun w h => h.1) arr16b rfl Hsx.out hHeld ?_
  refine held_pure 3 (.pointer (some ⟨p, 0, none⟩)) rfl (by kernel_rfl) (by kernel_rfl) (by kernel_rfl) rfl (fun w _ => rfl) hHeld ?_
  refine held_load 4 rfl (by kernel_rfl) (by kernel_rfl) (by kernel_rfl) rfl 24 (.tmp 5) rfl c 0 rfl (bvs y) _ (fun w h => h.2) arr16b rfl Hsy.out hHeld ?_
  refine held_load 7 rfl (by kernel_rfl) (by kernel_rfl) (by kernel_rfl) rfl 24 (.tmp 4) rfl b 0 rfl (bvs x) _ (fun w h => h.1) arr16b rfl Hsx.out hHeld ?_
  refine held_load 8 rfl (by kernel_rfl) (by kernel_rfl) (by kernel_rfl) rfl 24 (.tmp 5) rfl c 0 rfl (bvs y) _ (fun w h => h.2) arr16b rfl Hsy.out hHeld ?_
  refine held_pure 9 (.bool (x == y)) rfl (by kernel_rfl) (by kernel_rfl) (by kernel_rfl) rfl (fun w _ => run_eql16 _ _ (.tmp 19) (.tmp 20) _ rfl x y Hxl.out Hyl.out rfl rfl w) hHeld ?_
  simp only [Act.put, List.setIfInBounds_toArray]
  refine held_one 2 (by kernel_rfl) rfl ?_
  go_wp2_with fail
  refine (block5_any p K x _ hb6 Hxl.out).mono ?_
  rintro e w7 ⟨rfl, hk7⟩
  have hK7 := (Kept.refl [] w5).drew.andThen hk7
  have hb7 := HB.out _ hK7
  clear hb6 hHeld hk7
  go_wp2
  change _ ∧ wpAnyH _ _ _ _ _ _ _ _ _
  refine ⟨SK.out _ hK7, ?_⟩
  refine held_one 5 (by kernel_rfl) rfl ?_
  go_wp2_with fail
  refine (block5_any p K y _ hb7 Hyl.out).mono ?_
  rintro e w8 ⟨rfl, hk8⟩
  have hK8 := hK7.andThen hk8
  clear hb7 hk8 hK7
  go_wp2
  change _ ∧ wpAnyH _ _ _ _ _ _ _ _ _
  refine ⟨SK.out _ hK8, ?_⟩
  have heq := fun W => run_eq16 (aesBlock K x) (aesBlock K y) HX.out HY.out W
  refine held_one 6 (by kernel_rfl) rfl ?_
  go_wp2
  change _ ∧ wpAnyH _ _ _ _ _ _ _ _ _
  refine ⟨SK.out _ hK8, ?_⟩
  refine held_one 10 (by kernel_rfl) rfl ?_
  go_wp2
  change _ ∧ wpAnyH _ _ _ _ _ _ _ _ _
  refine ⟨SK.out _ hK8, ?_⟩
  refine held_one 11 (by kernel_rfl) rfl ?_
  go_wp2
  change _ ∧ wpAnyH _ _ _ _ _ _ _ _ _
  refine ⟨SK.out _ hK8, ?_⟩
  refine held_done (by kernel_rfl) ?_
  go_wp2
  go_ret
  exact ⟨ret_bool HE.out, hK5.andThen hK8⟩
end Go.Proofs.Yticjdmdbjhbddaa
