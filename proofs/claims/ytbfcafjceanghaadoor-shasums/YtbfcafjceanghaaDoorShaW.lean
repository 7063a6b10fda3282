/-
  Walk of the fixed fact that layer 2's laws ask first; two digests held against each other. No statement of the seed is proved here.
-/
import Derived.Test.YtbfcafjceanghaaDoorSha9
import Derived.Test.YtbfcafjceanghaaDoorShaAbc
import Derived.Stop.BytesEq
import Derived.Lib.SlBytesConst
namespace Go.Proofs.YtbfcafjceanghaaDoor
open Go.RowKit
set_option linter.unusedVariables false

theorem RdB.marked (w : World) (e : TypeId) (cs : Array Value) (fr : Nat × Nat) (n : Nat) (bs : List UInt8) (h : cs = (bvs bs).toArray) (hn : bs.length = n) (hm : n ≤ maxLen) : RdB (w.alloc (.cells cs e fr)) (some ⟨w.heap.size, 0, none⟩) n n bs := by
  subst h
  refine ⟨hn, Nat.le_refl _, hm, fun _ => ⟨w.heap.size, 0, rfl, fun j hj => ?_⟩⟩
  rw [cell_of_row _ _ _ _ _ _ (heap_alloc_new w _), Nat.zero_add]
  have := bvs_get bs j hj
  simpa using this
theorem abc_get (j : Nat) (b : UInt8) (hj : j < 4) (h : ([186, 120, 22, 191] : List UInt8)[j]? = some b) : (bvs (shaSum [97, 98, 99]))[j]? = some (.int .u8 (b.toNat : Int)) := by
  have h1 := congrArg (fun l : List UInt8 => l[j]?) abc4
  simp only [List.getElem?_take] at h1
  rw [if_pos hj, h] at h1
  simp [bvs, h1, bcell]

theorem wakes_any (w : World) (hgl : Glob w) : Calls Tryd.prog 7 #[] w fun e w' => e = .returned (.bool true) ∧ Kept [] w w' := by
  have kc := Lib.run_convert_bytes_const (P := Tryd.prog) w 22 5 #[.int .u8 97, .int .u8 98, .int .u8 99] 3 3 Tryd.underlying22 Tryd.underlying5
  go_enter Tryd.func7, Tryd.ntmps7
  go_wp2_with fail
  refine (sum_any _ 3 3 [97, 98, 99] _ (RdB.marked w _ _ _ _ _ rfl rfl (by simp [maxLen])) (hgl.kept0 ((Kept.refl [] w).alloc _)) (by omega)).mono ?_
  rintro e w2 ⟨rfl, hk2⟩
  have hK2 := ((Kept.refl [] w).alloc (.cells #[.int .u8 97, .int .u8 98, .int .u8 99] 5 (3, 4))).andThen hk2
  clear kc hk2
  go_wp2_with (with_reducible change wpList _ _ _ (⟨_, Op.alloc _, _, _, _, _⟩ :: _) _ _; refine wpList_alloc_blk rfl 25 rfl _ zero32 ?_)
  intro w3 hR3 hk3 hs3
  go_wp2_with (with_reducible change wpList _ _ _ (⟨_, Op.store _ _ _, _, _, _, _⟩ :: _) _ _; refine wpList_store_blk rfl 25 (.tmp 1) (.tmp 4) rfl w2.heap.size (bvs (shaSum [97, 98, 99])) rfl rfl 25 (zb 32) hR3 (key_size _) (key_zb _) (bvs_one _) ?_)
  intro w6 hR6 hk6 hs6
  have d0 := (hR6.cell 0).trans (abc_get 0 186 (by omega) rfl)
  have d1 := (hR6.cell 1).trans (abc_get 1 120 (by omega) rfl)
  have d2 := (hR6.cell 2).trans (abc_get 2 22 (by omega) rfl)
  have d3 := (hR6.cell 3).trans (abc_get 3 191 (by omega) rfl)
  have hK6 : Kept [] w w6 := (hK2.andThen hk3).trans hk6 (by have := hK2.size; simp; omega)
  clear hR6 hk6 hs6 hK2 hR3 hk3 hs3
  go_wp2
  go_ret
  exact ⟨rfl, hK6⟩

/-- Two digests, held against each other. -/
theorem wpList_eql_key {w : World} {ops : Array Oper} {rest : List Oper} {o : Oper} {a : Act} {Q : Exit → Act → World → Prop} (hgd : o.guard = none) (x y : Operand) (u : TypeId) (ho : o.op = .binOp .eql 25 x y u)
    (l m : List UInt8) (hl : l.length = 32) (hm : m.length = 32) (hx : a.eval x = .agg (bvs l).toArray) (hy : a.eval y = .agg (bvs m).toArray)
    (h : wpList Tryd.prog ops Q rest (a.put o.dst (.bool (l == m))) w) : wpList Tryd.prog ops Q (o :: rest) a w := by
  refine wpList_plain hgd fun K hK => ?_
  have hg := run_eqGuard_agg (P := Tryd.prog) w .eql 25 x y (bvs l).toArray (bvs m).toArray (by kernel_rfl)
  have he := run_eql_bytes (P := Tryd.prog) w 25 5 32 arr32b Tryd.underlying5 (fun W => by
    have h1 := size1b
    cases hq : Tryd.prog.info? 5 with
    | none => simp [hq] at h1
    | some i =>
      have hi : i.size = 1 := by simpa [hq] using h1
      simp [sizeOf, typeInfo, hq, hi]) l m hl hm
  unfold Oper.wp execOp
  simp only [ho, hx, hy, Sem.run_bind, hg, Result.andThen_ok]
  have he2 : (binOp .eql 25 (.agg (bvs l).toArray) (.agg (bvs m).toArray)).run Tryd.prog w = .ok (.bool (l == m)) w := he
  rw [he2]
  exact hK _ _ h
end Go.Proofs.YtbfcafjceanghaaDoor
