/-
  Contract of layer 13 (frame): a frame's name. No statement of the seed is proved here.
-/
import Derived.Test.YtibcjbelcplpjaaDoorItl
import Derived.Test.YtibcjbelcplpjaaDoorFnN
import Derived.Test.YtibcjbelcplpjaaDoorPd
import Derived.Test.YtibcjbelcplpjaaDoorPe
namespace Go.Proofs.YtibcjbelcplpjaaDoor
open Go.RowKit
set_option linter.unusedVariables false

section
variable {P : Program} {o : Oper} {ev : Operand → Value}
theorem pure_shr4 (t u : TypeId) (x y : Operand) (ho : o.op = .binOp .shr t x y u) (b : UInt8) (hx : ev x = .int .u8 (b.toNat : Int)) (hy : ev y = .int .u64 4) (w : World) : (execOp ev o).run P w = .ok (.value (.int .u8 ((b.toNat / 16 : Nat) : Int))) w := by
  unfold execOp
  simp only [ho, hx, hy]
  simp [eqGuard, binOp, Op.shift, IntKind.bits, Int.fdiv_eq_ediv]
theorem and15_all : ∀ n : Fin 256, (BitVec.ofInt 8 (n.val : Int) &&& BitVec.ofInt 8 15).toNat = n.val % 16 := by decide +kernel
theorem pure_and15 (t u : TypeId) (x y : Operand) (ho : o.op = .binOp .and t x y u) (b : UInt8) (hx : ev x = .int .u8 (b.toNat : Int)) (hy : ev y = .int .u8 15) (w : World) : (execOp ev o).run P w = .ok (.value (.int .u8 ((b.toNat % 16 : Nat) : Int))) w := by
  have h : (BitVec.ofInt IntKind.u8.bits (b.toNat : Int) &&& BitVec.ofInt IntKind.u8.bits 15).toNat = b.toNat % 16 := and15_all ⟨b.toNat, b.toNat_lt⟩
  have hb : IntKind.u8.wrap ((b.toNat % 16 : Nat) : Int) = ((b.toNat % 16 : Nat) : Int) := IntWalk.u8_in _ (by omega)
  unfold execOp
  simp only [ho, hx, hy]
  simp only [eqGuard, binOp, Op.intBits]
  rw [h, hb]
  simp
theorem pure_hex (t : TypeId) (x y : Operand) (ho : o.op = .index t x y) (d : Nat) (hd : d < 16) (hx : ev x = .string ⟨#[48, 49, 50, 51, 52, 53, 54, 55, 56, 57, 97, 98, 99, 100, 101, 102]⟩) (hy : ev y = .int .u8 (d : Int)) (ht : P.underlying t = some .string) (w : World) :
    (execOp ev o).run P w = .ok (.value (.int .u8 ((hexD d).toNat : Int))) w := by
  have h : (⟨#[48, 49, 50, 51, 52, 53, 54, 55, 56, 57, 97, 98, 99, 100, 101, 102]⟩ : ByteArray)[d]? = some (hexD d) := by
    rcases (by omega : d = 0 ∨ d = 1 ∨ d = 2 ∨ d = 3 ∨ d = 4 ∨ d = 5 ∨ d = 6 ∨ d = 7 ∨ d = 8 ∨ d = 9 ∨ d = 10 ∨ d = 11 ∨ d = 12 ∨ d = 13 ∨ d = 14 ∨ d = 15) with rfl | rfl | rfl | rfl | rfl | rfl | rfl | rfl | rfl | rfl | rfl | rfl | rfl | rfl | rfl | rfl <;> rfl
  unfold execOp
  simp only [ho, hx, hy]
  simp [Instr.index, asIntOf, run_underlying ht, h]
theorem pure_addS (t u : TypeId) (x y : Operand) (ho : o.op = .binOp .add t x y u) (a b c : ByteArray) (hx : ev x = .string a) (hy : ev y = .string b) (w : World) (h : (Op.stringOp .add a b).run P w = .ok (.string c) w) : (execOp ev o).run P w = .ok (.value (.string c)) w := by
  unfold execOp
  simp only [ho, hx, hy]
  simp [eqGuard, binOp, h]
end
set_option maxRecDepth 100000 in
set_option maxHeartbeats 8000000 in
theorem fNam_any (o : List UInt8) (z : Int) (w : World) (ho : o.length = 16) (h0 : -9223372036854775808 ≤ z) (h1 : z ≤ 9223372036854775807) (hgl : GlobI w) :
    Calls Tryd.prog 18 #[.agg (bvs o).toArray, .int .i64 z] w (StrRet (nameL o z) w) := by
  obtain ⟨i0, hi, hz0, hz1, hz2⟩ := info_parts u8info
  obtain ⟨w1, hw1⟩ : ∃ w1, w1 = w.alloc (.cells (bvs o).toArray 25) := ⟨_, rfl⟩
  obtain ⟨g, hg⟩ : ∃ g, g = w.heap.size := ⟨_, rfl⟩
  have hB : Blk w1 g 25 (bvs o) := by rw [hw1, hg]; exact Blk.new w 25 (bvs o)
  have hk1 : Kept [] w w1 := by rw [hw1]; exact (Kept.refl [] w).alloc _
  have W1 := Lib.hid hw1
  have G0 := Lib.hid hg
  have HB := Lib.hid hB
  have HK1 := Lib.hid hk1
  have Hol := Lib.hid ho
  have Hgl := Lib.hid hgl
  have HSO := Lib.hid (size_of_len (P := Tryd.prog) (ty := 25) sizeId ho)
  have HN : Hid (∀ l, l = 102 :: hexL o → nameL o z = (l ++ [46]) ++ decZ z) := Lib.hid (fun l hl => by rw [hl]; unfold nameL; simp)
  obtain ⟨X, hX⟩ : ∃ X, nameL o z = X := ⟨_, rfl⟩
  rw [hX] at HN ⊢
  clear hw1 hg hB hk1 hX ho hgl
  go_enter Tryd.func18, Tryd.ntmps18
  go_wp2_with (first
    | (with_reducible change wpList _ _ _ (⟨_, Op.box _ _, _, _, _, _⟩ :: _) _ _; refine Great.wpList_boxTo rfl 25 _ rfl _ rfl g G0.out.symm (bvs o).toArray rfl ?_; rw [← W1.out])
    | (with_reducible change wpList _ _ _ (⟨_, Op.load _ _, _, _, _, _⟩ :: _) _ _; refine wpList_load_blk rfl 25 (.tmp 2) rfl g rfl 25 _ _ (HB.out.kept0 ((Kept.refl [] w1).alloc _)) arrId rfl HSO.out ?_))
  have HO2 : Hid (OwB 5 (w1.alloc (.cells #[.int .u8 102] 5)) (.slice (some ⟨w1.heap.size, 0, none⟩) 1 1) [102]) := Lib.hid (by
    have := World.ownsRow_lit (base := 0) (e := 5) (size := 1) w1 #[.int .u8 102] 1 (Nat.zero_le _) (by simp [maxLen]) rfl
    simpa [OwB, bvs, bcell] using this)
  have HK2 : Hid (Kept [] w1 (w1.alloc (.cells #[.int .u8 102] 5))) := Lib.hid ((Kept.refl [] w1).alloc _)
  go_loopw [5, 10] (fun v i wr => ∃ (k : Nat) (A3 : Option Addr) (n3 c3 : Nat), k ≤ 16 ∧ v = .slice A3 n3 c3 ∧ i = .int .i64 (k : Int) ∧ Hid (OwB 5 wr (.slice A3 n3 c3) (102 :: hexL (o.take k))) ∧ Hid (Kept [] w1 wr) ∧ Hid (∀ q, (Value.slice A3 n3 c3).ownBlock = some q → w1.heap.size ≤ q)) (fun _ i _ => 16 - (intOf i).toNat)
  case atStart => exact ⟨0, _, 1, 1, by omega, rfl, rfl, by simpa [hexL] using HO2, HK2, Lib.hid (by simp [Value.ownBlock])⟩
  case round =>
    clear HO2 HK2
    obtain ⟨k, A3, n3, c3, hk, rfl, rfl, HO3, HK3, Hb3⟩ := hrel
    by_cases hlt : k < 16
    · obtain ⟨y, hy⟩ : ∃ y, o[k]? = some y := ⟨o[k]'(by have := Hol.out; omega), List.getElem?_eq_getElem _⟩
      have hix : ∀ W, (Instr.index 25 (.agg (bvs o).toArray) (.int .i64 (k : Int))).run Tryd.prog W = .ok (.int .u8 (y.toNat : Int)) W := fun W =>
        run_index_agg 25 5 16 _ k _ W arrId (by kernel_rfl) _ Tryd.underlying5 rfl hlt (by rw [List.getElem?_toArray, bvs, List.getElem?_map, hy]; rfl)
      have HT := Lib.hid (hexL_take hy)
      have Hpl : Hid ((102 :: hexL (o.take k)).length ≤ 33) := Lib.hid (by rw [List.length_cons, hexL_take_len (by have := Hol.out; omega)]; omega)
      obtain ⟨pre, hpre⟩ : ∃ pre, 102 :: hexL (o.take k) = pre := ⟨_, rfl⟩
      have HT2 : Hid (102 :: hexL (o.take (k + 1)) = pre ++ hex2 y) := Lib.hid (by rw [HT.out, ← hpre]; rfl)
      rw [hpre] at HO3 Hpl
      have ly := y.toNat_lt
      obtain ⟨d1, hd1⟩ : ∃ d, hexD (y.toNat / 16) = d := ⟨_, rfl⟩
      obtain ⟨d2, hd2⟩ : ∃ d, hexD (y.toNat % 16) = d := ⟨_, rfl⟩
      have HX2 : Hid (hex2 y = [d1, d2]) := Lib.hid (by rw [← hd1, ← hd2]; rfl)
      have HD1 := Lib.hid hd1
      have HD2 := Lib.hid hd2
      have HY1 : Hid (y.toNat / 16 < 16 ∧ y.toNat % 16 < 16) := Lib.hid (by omega)
      clear hy HT hpre hd1 hd2 ly
      go_wp2
      have hHeld : True := trivial
      refine wp_region_begin (fun _ => True) (by kernel_rfl) ?_
      refine held_pureD 0 13 (Value.slice A3 n3 c3) rfl rfl (by kernel_rfl) (by kernel_rfl) (by kernel_rfl) rfl (fun w hS => rfl) hHeld ?_
      simp only [Act.put, List.setIfInBounds_toArray, List.set_cons_succ, List.set_cons_zero]
      refine held_pureD 1 14 (.int .u8 (y.toNat : Int)) rfl rfl (by kernel_rfl) (by kernel_rfl) (by kernel_rfl) rfl (fun w hS => rfl) hHeld ?_
      simp only [Act.put, List.setIfInBounds_toArray, List.set_cons_succ, List.set_cons_zero]
      refine held_pureD 2 15 (.int .u8 ((y.toNat / 16 : Nat) : Int)) rfl rfl (by kernel_rfl) (by kernel_rfl) (by kernel_rfl) rfl (fun w hS => pure_shr4 _ _ (.tmp 14) _ rfl y rfl rfl w) hHeld ?_
      simp only [Act.put, List.setIfInBounds_toArray, List.set_cons_succ, List.set_cons_zero]
      refine held_pureD 3 16 (.int .u8 (d1.toNat : Int)) rfl rfl (by kernel_rfl) (by kernel_rfl) (by kernel_rfl) rfl (fun w hS => by rw [← HD1.out]; exact pure_hex 9 _ (.tmp 15) rfl (y.toNat / 16) HY1.out.1 rfl rfl Tryd.underlying9 w) hHeld ?_
      simp only [Act.put, List.setIfInBounds_toArray, List.set_cons_succ, List.set_cons_zero]
      refine held_pureD 4 17 (.int .u8 (y.toNat : Int)) rfl rfl (by kernel_rfl) (by kernel_rfl) (by kernel_rfl) rfl (fun w hS => rfl) hHeld ?_
      simp only [Act.put, List.setIfInBounds_toArray, List.set_cons_succ, List.set_cons_zero]
      refine held_pureD 5 18 (.int .u8 ((y.toNat % 16 : Nat) : Int)) rfl rfl (by kernel_rfl) (by kernel_rfl) (by kernel_rfl) rfl (fun w hS => pure_and15 _ _ (.tmp 17) _ rfl y rfl rfl w) hHeld ?_
      simp only [Act.put, List.setIfInBounds_toArray, List.set_cons_succ, List.set_cons_zero]
      refine held_pureD 6 19 (.int .u8 (d2.toNat : Int)) rfl rfl (by kernel_rfl) (by kernel_rfl) (by kernel_rfl) rfl (fun w hS => by rw [← HD2.out]; exact pure_hex 9 _ (.tmp 18) rfl (y.toNat % 16) HY1.out.2 rfl rfl Tryd.underlying9 w) hHeld ?_
      simp only [Act.put, List.setIfInBounds_toArray, List.set_cons_succ, List.set_cons_zero]
      refine held_one 7 (by kernel_rfl) rfl ?_
      go_wp2
      change _ ∧ wpAnyH _ _ _ _ _ _ _ _ _
      refine ⟨trivial, ?_⟩
      have hA : Kept [] wr (wr.alloc (.cells #[.int .u8 (d1.toNat : Int), .int .u8 (d2.toNat : Int)] 5)).drew := ((Kept.refl [] wr).alloc _).drew
      have HRd : Hid (RdB (wr.alloc (.cells #[.int .u8 (d1.toNat : Int), .int .u8 (d2.toNat : Int)] 5)).drew (some ⟨wr.heap.size, 0, none⟩) 2 2 [d1, d2]) := Lib.hid ((RdB.lit wr 5 _ 2 [d1, d2] rfl rfl (by simp [maxLen])).kept0 (Kept.refl [] _).drew)
      have HO4 := Lib.hid (HO3.out.kept0 hA)
      have HK4 := Lib.hid (HK3.out.andThen hA)
      clear hA HO3 HK3
      refine held_one 8 (by kernel_rfl) rfl ?_
      refine wpList_append_bytes rfl (.tmp 13) (.tmp 20) 26 rfl 5 i0 _ 1 Tryd.underlying26 hi hz0 hz1 hz2 rfl (.slice A3 n3 c3) pre rfl HO4.out _ 2 2 [d1, d2] rfl HRd.out (by have := Hpl.out; simp only [maxLen]; omega) (by have := Hpl.out; omega) ?_
      intro v6 w6 ho6 hk6 hm6
      obtain ⟨hK6, hb6⟩ := app_new HK4.out Hb3.out hk6 hm6
      obtain ⟨A6, n6, c6, rfl, _, _⟩ := ho6.form
      have HO6 : Hid (OwB 5 w6 (.slice A6 n6 c6) (102 :: hexL (o.take (k + 1)))) := Lib.hid (by rw [HT2.out, HX2.out]; exact ho6)
      have HK6 := Lib.hid hK6
      have Hb6 := Lib.hid hb6
      clear ho6 hk6 hm6 hK6 hb6 HO4 HK4 HRd hix
      go_wp2
      change _ ∧ wpAnyH _ _ _ _ _ _ _ _ _
      refine ⟨trivial, ?_⟩
      refine held_one 9 (by kernel_rfl) rfl ?_
      go_wp2
      change _ ∧ wpAnyH _ _ _ _ _ _ _ _ _
      refine ⟨trivial, ?_⟩
      refine held_done (by kernel_rfl) ?_
      go_wp2
      go_roundw
      case rel => exact ⟨k + 1, A6, n6, c6, by omega, rfl, by go_num, HO6, HK6, Hb6⟩
      case measure => simp [intOf]; omega
    · obtain rfl : k = 16 := by omega
      have HO4 : Hid (OwB 5 wr (.slice A3 n3 c3) (102 :: hexL o)) := Lib.hid (by have := HO3.out; rw [List.take_of_length_le (by have := Hol.out; omega)] at this; exact this)
      obtain ⟨L, hL⟩ : ∃ L, 102 :: hexL o = L := ⟨_, rfl⟩
      have HNm := Lib.hid (HN.out L hL.symm)
      have Hll : Hid (L.length = 33) := Lib.hid (by rw [← hL, List.length_cons, hexL_length, Hol.out])
      rw [hL] at HO4
      have hr4 : RdB wr A3 n3 c3 L := by
        obtain ⟨_, _, _, e, hr, _⟩ := HO4.out.form
        cases e
        exact hr
      have SK : Hid (∀ W, Kept [] wr W → RdB W A3 n3 c3 L) := Lib.hid (fun W hk => hr4.kept0 hk)
      have HgI := Lib.hid (Hgl.out.kept0 (HK1.out.andThen HK3.out))
      obtain ⟨sL, hsL⟩ : ∃ sL : ByteArray, (⟨L.toArray⟩ : ByteArray) = sL := ⟨_, rfl⟩
      have HsL : Hid (strL sL = L) := Lib.hid (by rw [← hsL]; exact strL_mk L)
      have hsz : sL.size ≤ 100 := by rw [← hsL, size_mk, Hll.out]; omega
      obtain ⟨sM, hsM⟩ := str_mk (L ++ [46])
      have hszM : sM.size ≤ 100 := by
        have h2 := congrArg List.length hsM
        rw [strL_length, List.length_append, Hll.out] at h2
        simp at h2
        omega
      have haddM : ∀ v : World, (Op.stringOp .add sL ⟨#[46]⟩).run Tryd.prog v = .ok (.string sM) v := add_rule (P := Tryd.prog) sL ⟨#[46]⟩ sM (by rw [hsM, HsL.out]; rfl) (by omega) (by decide)
      have HaddM := Lib.hid haddM
      have HsM := Lib.hid hsM
      have HsL2 := Lib.hid hsL
      clear hr4 hL HO4 HO3 hlt hk hsL haddM hsM
      go_wp2
      have hHeld := SK.out _ (Kept.refl [] wr).drew
      refine wp_region_begin (fun W => RdB W A3 n3 c3 L) (by kernel_rfl) ?_
      refine held_pureD 0 23 (Value.slice A3 n3 c3) rfl rfl (by kernel_rfl) (by kernel_rfl) (by kernel_rfl) rfl (fun w hS => rfl) hHeld ?_
      simp only [Act.put, List.setIfInBounds_toArray, List.set_cons_succ, List.set_cons_zero]
      refine held_pureD 1 24 (.string sL) rfl rfl (by kernel_rfl) (by kernel_rfl) (by kernel_rfl) rfl (fun w hS => by rw [← HsL2.out]; exact pureStr 26 9 5 (.tmp 23) rfl rfl Tryd.underlying26 Tryd.underlying5 Tryd.underlying9 w hS) hHeld ?_
      simp only [Act.put, List.setIfInBounds_toArray, List.set_cons_succ, List.set_cons_zero]
      refine held_pureD 2 25 (.string sM) rfl rfl (by kernel_rfl) (by kernel_rfl) (by kernel_rfl) rfl (fun w hS => pure_addS _ _ (.tmp 24) _ rfl sL ⟨#[46]⟩ sM rfl rfl w (HaddM.out w)) hHeld ?_
      simp only [Act.put, List.setIfInBounds_toArray, List.set_cons_succ, List.set_cons_zero]
      refine held_pureD 3 26 (.int .i64 z) rfl rfl (by kernel_rfl) (by kernel_rfl) (by kernel_rfl) rfl (fun w hS => rfl) hHeld ?_
      simp only [Act.put, List.setIfInBounds_toArray, List.set_cons_succ, List.set_cons_zero]
      refine held_one 4 (by kernel_rfl) rfl ?_
      go_wp2_with fail
      refine (itoa_any z _ h0 h1 (HgI.out.kept0 (Kept.refl [] wr).drew)).mono ?_
      rintro e w6 ⟨s, rfl, hs, hk6⟩
      have hK6 := (Kept.refl [] wr).drew.andThen hk6
      have hsl : s.size ≤ 100 := by
        have h2 := congrArg List.length hs
        rw [strL_length] at h2
        have h3 : (decZ z).length ≤ 21 := by
          by_cases hz : z < 0
          · rw [decZ_neg hz, List.length_cons]; have := decN_len20 (n := z.natAbs) (by omega); omega
          · rw [decZ_pos hz]; have := decN_len20 (n := z.natAbs) (by omega); omega
        omega
      obtain ⟨t, ht⟩ := str_mk X
      have hadd : ∀ v : World, (Op.stringOp .add sM s).run Tryd.prog v = .ok (.string t) v := add_rule (P := Tryd.prog) sM s t (by rw [ht, HNm.out, HsM.out, hs]) (by omega) (by omega)
      have Ht := Lib.hid ht
      clear hk6
      go_wp2
      change _ ∧ wpAnyH _ _ _ _ _ _ _ _ _
      refine ⟨SK.out _ hK6, ?_⟩
      refine held_one 5 (by kernel_rfl) rfl ?_
      go_wp2
      change _ ∧ wpAnyH _ _ _ _ _ _ _ _ _
      refine ⟨SK.out _ hK6, ?_⟩
      refine held_one 6 (by kernel_rfl) rfl ?_
      go_wp2
      change _ ∧ wpAnyH _ _ _ _ _ _ _ _ _
      refine ⟨SK.out _ hK6, ?_⟩
      refine held_done (by kernel_rfl) ?_
      go_wp2
      go_ret
      exact ⟨t, rfl, Ht.out, (HK1.out.andThen HK3.out).andThen hK6⟩
end Go.Proofs.YtibcjbelcplpjaaDoor
