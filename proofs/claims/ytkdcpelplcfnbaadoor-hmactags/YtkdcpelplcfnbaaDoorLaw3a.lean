/-
  Walk of the fixed fact that layer 3's laws ask first; the walk of a law: any two texts are told equal just if they are the same bytes. No statement of the seed is proved here.
-/
import Derived.Test.YtkdcpelplcfnbaaDoorHm3
import Derived.Test.YtkdcpelplcfnbaaDoorInfo
namespace Go.Proofs.YtkdcpelplcfnbaaDoor
open Go.RowKit
set_option linter.unusedVariables false

def jefe : List UInt8 := [74, 101, 102, 101]
def what : List UInt8 := [119, 104, 97, 116, 32, 100, 111, 32, 121, 97, 32, 119, 97, 110, 116, 32, 102, 111, 114, 32, 110, 111, 116, 104, 105, 110, 103, 63]
theorem jefe_get (j : Nat) (b : UInt8) (hj : j < 4) (h : ([91, 220, 193, 70] : List UInt8)[j]? = some b) : (bvs (hTag jefe what))[j]? = some (.int .u8 (b.toNat : Int)) := by
  have h1 := congrArg (fun l : List UInt8 => l[j]?) jefe4
  simp only [List.getElem?_take] at h1
  rw [if_pos hj, h] at h1
  show (bvs (hTag [74, 101, 102, 101] [119, 104, 97, 116, 32, 100, 111, 32, 121, 97, 32, 119, 97, 110, 116, 32, 102, 111, 114, 32, 110, 111, 116, 104, 105, 110, 103, 63]))[j]? = _
  simp [bvs, h1, bcell]

set_option maxRecDepth 100000 in
set_option maxHeartbeats 1000000 in
theorem wakes_any (w : World) (hgl : Glob w) : Calls Tryd.prog 7 #[] w fun e w' => e = .returned (.bool true) ∧ Kept [] w w' := by
  have kc := Lib.run_convert_bytes_const (P := Tryd.prog) w 22 5 #[.int .u8 74, .int .u8 101, .int .u8 102, .int .u8 101] 4 4 Tryd.underlying22 Tryd.underlying5
  have kc2 := Lib.run_convert_bytes_const (P := Tryd.prog) (w.alloc (.cells #[.int .u8 74, .int .u8 101, .int .u8 102, .int .u8 101] 5 (4, 5))) 22 5 #[.int .u8 119, .int .u8 104, .int .u8 97, .int .u8 116, .int .u8 32, .int .u8 100, .int .u8 111, .int .u8 32, .int .u8 121, .int .u8 97, .int .u8 32, .int .u8 119, .int .u8 97, .int .u8 110, .int .u8 116, .int .u8 32, .int .u8 102, .int .u8 111, .int .u8 114, .int .u8 32, .int .u8 110, .int .u8 111, .int .u8 116, .int .u8 104, .int .u8 105, .int .u8 110, .int .u8 103, .int .u8 63] 28 28 Tryd.underlying22 Tryd.underlying5
  have hs1 : (w.alloc (.cells #[.int .u8 74, .int .u8 101, .int .u8 102, .int .u8 101] 5 (4, 5))).heap.size = w.heap.size + 1 := by simp
  have k1 : Kept [] w (w.alloc (.cells #[.int .u8 74, .int .u8 101, .int .u8 102, .int .u8 101] 5 (4, 5))) := (Kept.refl [] w).alloc _
  have k2 : Kept [] (w.alloc (.cells #[.int .u8 74, .int .u8 101, .int .u8 102, .int .u8 101] 5 (4, 5))) ((w.alloc (.cells #[.int .u8 74, .int .u8 101, .int .u8 102, .int .u8 101] 5 (4, 5))).alloc (.cells #[.int .u8 119, .int .u8 104, .int .u8 97, .int .u8 116, .int .u8 32, .int .u8 100, .int .u8 111, .int .u8 32, .int .u8 121, .int .u8 97, .int .u8 32, .int .u8 119, .int .u8 97, .int .u8 110, .int .u8 116, .int .u8 32, .int .u8 102, .int .u8 111, .int .u8 114, .int .u8 32, .int .u8 110, .int .u8 111, .int .u8 116, .int .u8 104, .int .u8 105, .int .u8 110, .int .u8 103, .int .u8 63] 5 (28, 29))) := (Kept.refl [] _).alloc _
  have r1 : RdB (w.alloc (.cells #[.int .u8 74, .int .u8 101, .int .u8 102, .int .u8 101] 5 (4, 5))) _ 4 4 jefe := RdB.marked w _ _ _ _ _ rfl rfl (by simp [maxLen])
  have r2 : RdB ((w.alloc (.cells #[.int .u8 74, .int .u8 101, .int .u8 102, .int .u8 101] 5 (4, 5))).alloc (.cells #[.int .u8 119, .int .u8 104, .int .u8 97, .int .u8 116, .int .u8 32, .int .u8 100, .int .u8 111, .int .u8 32, .int .u8 121, .int .u8 97, .int .u8 32, .int .u8 119, .int .u8 97, .int .u8 110, .int .u8 116, .int .u8 32, .int .u8 102, .int .u8 111, .int .u8 114, .int .u8 32, .int .u8 110, .int .u8 111, .int .u8 116, .int .u8 104, .int .u8 105, .int .u8 110, .int .u8 103, .int .u8 63] 5 (28, 29))) _ 28 28 what := RdB.marked _ _ _ _ _ _ rfl rfl (by simp [maxLen])
  rw [hs1] at kc2 r2
  have K1 := Lib.hid k1
  have K2 := Lib.hid k2
  have R1 := Lib.hid r1
  have R2 := Lib.hid r2
  clear k1 k2 r1 r2 hs1
  go_enter Tryd.func7, Tryd.ntmps7
  go_wp2_with fail
  refine (hTagF_any _ _ 4 4 28 28 jefe what _ (R1.out.kept0 K2.out) R2.out ((hgl.kept0 K1.out).kept0 K2.out) (by omega) (by omega)).mono ?_
  rintro e w2 ⟨rfl, hk2⟩
  have hK2 := (K1.out.andThen K2.out).andThen hk2
  have ht := hTag_length jefe what
  clear kc kc2 hk2 K1 K2 R1 R2
  go_wp2_with (with_reducible change wpList _ _ _ (⟨_, Op.alloc _, _, _, _, _⟩ :: _) _ _; refine wpList_alloc_blk rfl 25 rfl _ zero32 ?_)
  intro w3 hR3 hk3 hs3
  go_wp2_with (with_reducible change wpList _ _ _ (⟨_, Op.store _ _ _, _, _, _, _⟩ :: _) _ _; refine wpList_store_blk rfl 25 (.tmp 1) (.tmp 6) rfl w2.heap.size (bvs (hTag jefe what)) rfl rfl 25 (zb 32) hR3 (size_of_len size32 ht) (zb_len ht) (bvs_one _) ?_)
  intro w6 hR6 hk6 hs6
  have d0 := (hR6.cell 0).trans (jefe_get 0 91 (by omega) rfl)
  have d1 := (hR6.cell 1).trans (jefe_get 1 220 (by omega) rfl)
  have d2 := (hR6.cell 2).trans (jefe_get 2 193 (by omega) rfl)
  have d3 := (hR6.cell 3).trans (jefe_get 3 70 (by omega) rfl)
  have hK6 : Kept [] w w6 := (hK2.andThen hk3).trans hk6 (by have := hK2.size; simp; omega)
  clear hR6 hk6 hs6 hK2 hR3 hk3 hs3
  go_wp2
  go_ret
  exact ⟨rfl, hK6⟩

theorem wpList_unguard {P : Program} {ops : Array Oper} {Q : Exit → Act → World → Prop} {a : Act} {w : World} {rest : List Oper} {o : Oper} (hw : Region.wanted o (yielded ops a.tmps) = true)
    (h : wpList P ops Q ({ o with guard := none } :: rest) a w) : wpList P ops Q (o :: rest) a w := by
  unfold wpList at h ⊢
  rw [if_pos hw]
  rw [if_pos (by simp [Region.wanted])] at h
  cases o
  exact h

theorem equal_k (A A' : Option Addr) (n n' c c' : Nat) (xs bs : List UInt8) (w : World) (ha : RdB w A n c xs) (hb : RdB w A' n' c' bs) :
    Calls Tryd.prog 13 #[.slice A n c, .slice A' n' c'] w fun e w' => e = .returned (.bool (xs == bs)) ∧ Kept [] w w' :=
  (equal_any A A' n n' c c' xs bs w ha hb).mono fun e w' h => ⟨h.1, by obtain ⟨m, rfl⟩ := h.2; exact (Kept.refl [] w).drewN m⟩
theorem same_k (A A' : Option Addr) (n n' c c' : Nat) (xs bs : List UInt8) (w : World) (ha : RdB w A n c xs) (hb : RdB w A' n' c' bs) :
    Calls Tryd.prog 10 #[.slice A n c, .slice A' n' c'] w fun e w' => e = .returned (.bool (xs == bs)) ∧ Kept [] w w' :=
  (same_any A A' n n' c c' xs bs w ha hb).mono fun e w' h => ⟨h.1, by obtain ⟨m, rfl⟩ := h.2; exact (Kept.refl [] w).drewN m⟩

set_option maxRecDepth 100000 in
set_option maxHeartbeats 1000000 in
theorem equal_walk (A : Option Addr) (n c : Nat) (xs : List UInt8) (A' : Option Addr) (n' c' : Nat) (bs : List UInt8) (w : World) (hgl : Glob w) (ha : RdB w A n c xs) (sa : c ≤ 140737488351232) (hb : RdB w A' n' c' bs) (sb : c' ≤ 140737488351232) :
    Calls Tryd.prog 5 #[.slice A n c, .slice A' n' c'] w fun e w' => e = .returned (.bool true) ∧ Kept [] w w' := by
  obtain ⟨i0, hi, hz0, hz1, hz2⟩ := info_parts u8info
  have hca := ha.cap
  have hcb := hb.cap
  have hla := ha.len
  have hlb := hb.len
  have h0b : ((0 :: bs) == bs) = false := by
    simp only [beq_eq_false_iff_ne, ne_eq]
    intro e
    have := congrArg List.length e
    simp at this
  have hxx : (xs == xs) = true := by simp
  have H0 := Lib.hid h0b
  have HX := Lib.hid hxx
  have HB := Lib.hid hlb
  clear h0b hxx hla hlb
  go_enter Tryd.func5, Tryd.ntmps5
  go_wp2_with fail
  refine (wakes_any _ hgl).mono ?_
  rintro e w1 ⟨rfl, hk1⟩
  go_wp2_with fail
  refine (equal_k A A' n n' c c' xs bs _ (ha.kept0 hk1) (hb.kept0 hk1)).mono ?_
  rintro e w2 ⟨rfl, hk2⟩
  have hK2 := hk1.andThen hk2
  go_wp2_with fail
  refine (same_k A A' n n' c c' xs bs _ (ha.kept0 hK2) (hb.kept0 hK2)).mono ?_
  generalize (xs == bs) = q
  rintro e w3 ⟨rfl, hk3⟩
  have hK3 := hK2.andThen hk3
  clear hk1 hk2 hk3 hK2
  have hown : OwB 5 (w3.alloc (.cells #[] 5)) (.slice (some ⟨w3.heap.size, 0, none⟩) 0 0) [] := by
    have := World.ownsRow_lit (base := 0) (e := 5) (size := 1) w3 #[] 0 (Nat.zero_le _) (by simp [maxLen]) rfl
    simpa [OwB, bvs] using this
  have hA : Kept [] w (w3.alloc (.cells #[] 5)) := hK3.alloc _
  have HA := Lib.hid hA
  have HO := Lib.hid hown
  clear hA hown
  go_wp2_with (at_builtin; refine wpList_unguard (by rfl) ?_; refine wpList_append_bytes rfl (.tmp 16) (.tmp 17) 22 rfl 5 i0 _ 1 Tryd.underlying22 hi hz0 hz1 hz2 rfl (.slice (some ⟨w3.heap.size, 0, none⟩) 0 0) [] rfl HO.out A n c xs rfl (ha.kept0 HA.out) (by simp only [maxLen, List.length_nil]; omega) (by simp only [List.length_nil]; omega) ?_)
  intro v5 w5 ho5 hk5 hm5
  have hs3 := hK3.size
  obtain ⟨hK5, hb5⟩ := app_new HA.out (by intro g hg; simp [Value.ownBlock] at hg; omega) hk5 hm5
  obtain ⟨A5, n5, c5, rfl, hr5, _⟩ := ho5.form
  clear HA HO hk5 hm5 hb5 ho5
  have hKw := hK5
  have hK5w : Kept [] w w5 := hK5
  go_wp2_with fail
  refine (equal_k A A5 n n5 c c5 xs xs _ (ha.kept0 hK5w) hr5).mono ?_
  rw [HX.out]
  rintro e w6 ⟨rfl, hk6⟩
  have hK6 := hK5w.andThen hk6
  clear hKw hK5w hK5 hk6 hr5 hK3 hs3
  have hown : OwB 5 (w6.alloc (.cells #[.int .u8 0] 5)) (.slice (some ⟨w6.heap.size, 0, none⟩) 1 1) [0] := by
    have := World.ownsRow_lit (base := 0) (e := 5) (size := 1) w6 #[.int .u8 0] 1 (Nat.zero_le _) (by simp [maxLen]) rfl
    exact this
  have hA : Kept [] w (w6.alloc (.cells #[.int .u8 0] 5)) := hK6.alloc _
  have HA := Lib.hid hA
  have HO := Lib.hid hown
  clear hA hown
  go_wp2_with (at_builtin; refine wpList_unguard (by rfl) ?_; refine wpList_append_bytes rfl (.tmp 22) (.tmp 23) 22 rfl 5 i0 _ 1 Tryd.underlying22 hi hz0 hz1 hz2 rfl (.slice (some ⟨w6.heap.size, 0, none⟩) 1 1) [0] rfl HO.out A' n' c' bs rfl (hb.kept0 HA.out) (by simp only [maxLen, List.length_singleton]; omega) (by simp only [List.length_singleton]; omega) ?_)
  intro v7 w7 ho7 hk7 hm7
  have hs6 := hK6.size
  obtain ⟨hK7, hb7⟩ := app_new HA.out (by intro g hg; simp [Value.ownBlock] at hg; omega) hk7 hm7
  obtain ⟨A7, n7, c7, rfl, hr7, _⟩ := ho7.form
  clear HA HO hk7 hm7 hb7 ho7 hK6 hs6
  go_wp2_with fail
  refine (equal_k A7 A' n7 n' c7 c' _ bs _ hr7 (hb.kept0 hK7)).mono ?_
  rw [H0.out]
  rintro e w8 ⟨rfl, hk8⟩
  go_wp2
  go_ret
  exact ⟨rfl, hK7.andThen hk8⟩
end Go.Proofs.YtkdcpelplcfnbaaDoor
