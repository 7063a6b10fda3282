/-
  The walk of the law on whatever is taken. No statement of the seed is proved here.
-/
import Derived.Test.YtfkhlnhnanimkaaRef1d
import Derived.Test.YtfkhlnhnanimkaaLaw1d
namespace Go.Proofs.Ytfkhlnhnanimkaa
open Go.RowKit
set_option linter.unusedVariables false

theorem set4 (w : World) (g : Nat) (u0 u1 u2 u3 : Value) : Kept [g] w ((((w.setCell ⟨g, 0, none⟩ u0).setCell ⟨g, 1, none⟩ u1).setCell ⟨g, 2, none⟩ u2).setCell ⟨g, 3, none⟩ u3) :=
  ((((Kept.refl _ _).setCell (by simp) _).setCell (by simp) _).setCell (by simp) _).setCell (by simp) _
theorem first_block (w : World) (O1 O2 : Obj) : ((w.alloc O1).alloc O2).heap[w.heap.size]? = some O1 := by
  rw [Below.heap_alloc _ _ _ (by simp)]
  exact heap_alloc_new w O1
theorem next_block (w : World) (O1 O2 : Obj) : ((w.alloc O1).alloc O2).heap[w.heap.size + 1]? = some O2 := by
  have := heap_alloc_new (w.alloc O1) O2
  simpa using this
theorem rfTakeNum_at (A : Option Addr) (n c : Nat) (bs : List UInt8) (a : Nat) (m : Int) (w : World) (hr : RdB w A n c bs) (ha : a ≤ n) (hn : n ≤ 1000000) {x d er : Nat} (ht : tnum (bs.drop a) m = (x, d, er)) :
    Calls Try.prog 21 #[.slice A n c, .int .i64 a, .int .i64 m] w (GotRet x [] d er w) := by
  have := rfTakeNum_any A n c bs a m w hr ha hn
  rw [ht] at this
  exact this
theorem rfTakeText_at (A : Option Addr) (n c : Nat) (bs : List UInt8) (a : Nat) (m : Int) (w : World) (hr : RdB w A n c bs) (ha : a ≤ n) (hn : n ≤ 1000000) (h1 : -9223372036854775808 ≤ m) (h2 : m ≤ 9223372036854775807) {T : List UInt8} {d er : Nat} (ht : ttext (bs.drop a) m = (T, d, er)) :
    Calls Try.prog 25 #[.slice A n c, .int .i64 a, .int .i64 m] w (GotRet 0 T d er w) := by
  have := rfTakeText_any A n c bs a m w hr ha hn h1 h2
  rw [ht] at this
  exact this

structure Taking (r : Nat) (w wr : World) (bs : List UInt8) (q : Nat) : Prop where
  rea : Rea wr r bs q
  kept : Kept [] w wr
  new : w.heap.size ≤ r

set_option maxHeartbeats 4000000 in
set_option maxRecDepth 100000 in
theorem takes_walk (A0 : Option Addr) (n0 c0 : Nat) (bs : List UInt8) (A : Option Addr) (n c : Nat) (l : List ActD) (w : World) (hr0 : RdB w A0 n0 c0 bs) (hr : RdActs w A n c l) :
    Calls Try.prog 4 #[.slice A0 n0 c0, .slice A n c] w fun e w' => e = .returned (.bool true) ∧ Kept [] w w' := by
  obtain ⟨i0, hi, hz0, hz1, hz2⟩ := info_parts u8info
  have hcc := hr.cap
  have hcm := hr.most
  unfold maxLen at hcm
  have hcc0 := hr0.cap
  have hcm0 := hr0.most
  unfold maxLen at hcm0
  go_enter Try.func4, Try.ntmps4
  go_wp2_with fail
  refine (wakes_any _).mono ?_
  rintro e w1 ⟨rfl, hk1⟩
  have hr1 : RdActs w1 A n c l := ⟨hr.len, hr.cap, hr.most, fun h0 => by
    obtain ⟨b, off, e, hh⟩ := hr.cells h0
    exact ⟨b, off, e, fun j hj => (hh j hj).kept0 hk1⟩⟩
  go_wp2_with fail
  refine (long_any A n c l _ hr1).mono ?_
  rintro e w2 ⟨b, rfl, rfl, hb⟩
  cases b with
  | true =>
    go_wp2
    go_ret
    exact ⟨rfl, hk1⟩
  | false =>
    obtain ⟨hn100, h500⟩ := hb rfl
    have hs1 := hk1.size
    clear hb h500
    by_cases h3 : 3000 < n0
    · have hd3 : decide (3000 < (n0 : Int)) = true := by simp; omega
      go_wp2
      go_ret
      exact ⟨rfl, hk1⟩
    · have hd3 : decide (3000 < (n0 : Int)) = false := by simp; omega
      have hown0 : OwB 5 (w1.alloc (.cells #[] 5)) (.slice (some ⟨w1.heap.size, 0, none⟩) 0 0) [] := by
        have := World.ownsRow_lit (base := 0) (e := 5) (size := 1) w1 #[] 0 (Nat.zero_le _) (by simp [maxLen]) rfl
        simpa [OwB, bvs] using this
      have hr01 := (hr0.kept0 hk1).alloc (.cells #[] 5)
      go_wp2_with (at_builtin; refine wpList_append_bytes rfl (.tmp 22) (.tmp 23) 25 rfl 5 i0 _ 1 Try.underlying25 hi hz0 hz1 hz2 rfl (.slice (some ⟨w1.heap.size, 0, none⟩) 0 0) [] rfl hown0 A0 n0 c0 _ rfl hr01 (by simp only [maxLen, List.length_nil]; omega) (by simp only [List.length_nil]; omega) ?_; intro v3 w3 hown3 hk3 hm3; obtain ⟨A3, n3, c3, rfl, hrd3, hbl3⟩ := hown3.form)
      rw [List.nil_append] at hrd3
      have hk13 : Kept [] w w3 := (hk1.alloc _).trans hk3 (by simp [Value.ownBlock]; omega)
      have hl0 := hr0.len
      have hl3 := hrd3.len
      refine (rNew_any A3 n3 c3 bs _ hrd3 (by omega)).mono ?_
      rintro e w4 ⟨r, rfl, hR4, hk4, hr4⟩
      have hk14 := hk13.andThen hk4
      have hs13 := hk13.size
      have HL := Lib.hid hl0
      clear hl0 hl3 hown0 hr01 hk3 hm3
      go_wp2
      go_loopw [6, 28] (fun q i wr => ∃ (k m : Nat), k ≤ n ∧ i = .int .i64 k ∧ q = .int .i64 m ∧ Taking r w wr bs m) (fun _ i _ => n - (intOf i).toNat)
      case atStart => exact ⟨0, 0, by omega, rfl, rfl, hR4, hk14, by omega⟩
      case round =>
        obtain ⟨k, q, hk, rfl, rfl, hT⟩ := hrel
        have hqn := hT.rea.le
        rw [HL.out] at hqn
        by_cases hlt : k < n
        · obtain ⟨b, off, a, rfl, ha, hat⟩ := hr.at_ hlt
          have hw := hat.kept0 hT.kept
          obtain ⟨kind, num, x, A3, l3, cap3, bs3⟩ := a
          have d0 := hw.c0
          have d1 := hw.c1
          have d2 := hw.c2
          have d3 := hw.c3
          obtain ⟨x0, x1⟩ := hat.x0
          obtain ⟨n1, n2⟩ := hat.n0
          obtain ⟨k1, k2⟩ := hat.k0
          simp only at d0 d1 d2 d3 x0 x1 n1 n2 k1 k2
          clear ha hw hat
          have hrl := hT.rea.lt
          have hrl2 := hT.new
          have hkin : kind = 0 ∨ kind = 1 ∨ kind = 2 ∨ (kind ≠ 0 ∧ kind ≠ 1 ∧ kind ≠ 2) := by omega
          rcases hkin with rfl | rfl | rfl | ⟨q0, q1, q2⟩
          · go_wp2_with fail
            refine (rNum_any r bs q num _ ((hT.rea.kept0 ((Kept.refl [] wr).alloc _)).kept0 ((Kept.refl [] _).alloc _))).mono ?_
            rintro e w5 ⟨x5, d, er, ht, rfl, hK⟩
            have hr11 := RdB.nil w5
            have hOa : w5.heap[wr.heap.size]? = some (.cells #[.int .i64 0, .int .i64 num, .int .u64 x, .slice A3 l3 cap3] 30 (0, 0)) := (hK.kept.block _ (by simp; omega) (by simp; omega)).trans (first_block wr _ _)
            have hGa : w5.heap[wr.heap.size + 1]? = some (.cells #[.int .u64 0, .slice none 0 0, .int .i64 0, .int .i64 0] 44 (0, 0)) := (hK.kept.block _ (by simp) (by simp; omega)).trans (next_block wr _ _)
            obtain ⟨⟨o0, o1, o2, o3⟩, _, _⟩ := blk4 hOa
            have hk5 : Kept [] w w5 := ((hT.kept.alloc _).alloc _).trans hK.kept (by simp; omega)
            have hqd := hK.rea.le
            rw [HL.out] at hqd
            have HT5 := Lib.hid ht
            have HOa := Lib.hid hOa
            have HGa := Lib.hid hGa
            clear ht hOa hGa
            go_wp2_with fail
            refine (rfTakeNum_at A0 n0 c0 bs q num _ (hr0.kept0 hk5) (by omega) (by omega) HT5.out).mono ?_
            rintro e w6 ⟨v6, rfl, ho6, hk6, hf6⟩
            obtain ⟨A6, n6, c6, rfl, hrd6, hbl6⟩ := ho6.form
            obtain ⟨⟨g0, g1, g2, g3⟩, ⟨f0, f1, f2, f3⟩, hgl⟩ := blk4 ((hk6.block _ (Array.getElem?_eq_some_iff.1 HGa.out).1 (by simp)).trans HGa.out)
            obtain rfl : 0 = n6 := by have := hrd6.len; have := hr11.len; simp at *; omega
            have hg6 : wr.heap.size + 1 < w6.heap.size := hgl
            have hW := set4 w6 (wr.heap.size + 1) (.int .u64 x5) (.slice A6 0 c6) (.int .i64 (d : Int)) (.int .i64 (er : Int))
            have hR7 := (hK.rea.kept0 hk6).keptS hW (by simp; omega)
            have hk7 : Kept [] w _ := (hk5.andThen hk6).trans hW (by simp; omega)
            have h11 := (hr11.kept0 hk6).keptIf hW (fun h => absurd h (by omega))
            have h99 := hrd6.keptIf hW (fun _ a ha => by subst ha; have := hf6 a.block rfl; have := hk6.size; have := HGa.out; have := (Array.getElem?_eq_some_iff.1 HGa.out).1; simp; omega)
            go_wp2_with fail
            refine (same_yes _ _ _ _ _ _ _ h11 h99).mono ?_
            rintro e w7 ⟨rfl, m, rfl⟩
            go_wp2_with fail
            refine (rAt_any r bs _ _ (hR7.drewN m)).mono ?_
            rintro e w8 ⟨rfl, rfl⟩
            rw [Int.natCast_add]
            go_wp2
            go_roundw
            case rel => exact ⟨k + 1, q + d, by omega, by go_num, by go_num, hR7.drewN m, hk7.drewN m, hT.new⟩
            case measure => simp [intOf]; omega
          · go_wp2_with fail
            refine (rSmall_any r bs q x _ ((hT.rea.kept0 ((Kept.refl [] wr).alloc _)).kept0 ((Kept.refl [] _).alloc _)) x0).mono ?_
            rintro e w5 ⟨x5, d, er, ht, rfl, hK⟩
            have hr11 := RdB.nil w5
            have hOa : w5.heap[wr.heap.size]? = some (.cells #[.int .i64 1, .int .i64 num, .int .u64 x, .slice A3 l3 cap3] 30 (0, 0)) := (hK.kept.block _ (by simp; omega) (by simp; omega)).trans (first_block wr _ _)
            have hGa : w5.heap[wr.heap.size + 1]? = some (.cells #[.int .u64 0, .slice none 0 0, .int .i64 0, .int .i64 0] 44 (0, 0)) := (hK.kept.block _ (by simp) (by simp; omega)).trans (next_block wr _ _)
            obtain ⟨⟨o0, o1, o2, o3⟩, _, _⟩ := blk4 hOa
            have hk5 : Kept [] w w5 := ((hT.kept.alloc _).alloc _).trans hK.kept (by simp; omega)
            have hqd := hK.rea.le
            rw [HL.out] at hqd
            have HT5 := Lib.hid ht
            have HOa := Lib.hid hOa
            have HGa := Lib.hid hGa
            clear ht hOa hGa
            go_wp2_with fail
            refine (rfTakeSmall_at A0 n0 c0 bs q x _ (hr0.kept0 hk5) (by omega) (by omega) x0 HT5.out).mono ?_
            rintro e w6 ⟨v6, rfl, ho6, hk6, hf6⟩
            obtain ⟨A6, n6, c6, rfl, hrd6, hbl6⟩ := ho6.form
            obtain ⟨⟨g0, g1, g2, g3⟩, ⟨f0, f1, f2, f3⟩, hgl⟩ := blk4 ((hk6.block _ (Array.getElem?_eq_some_iff.1 HGa.out).1 (by simp)).trans HGa.out)
            obtain rfl : 0 = n6 := by have := hrd6.len; have := hr11.len; simp at *; omega
            have hg6 : wr.heap.size + 1 < w6.heap.size := hgl
            have hW := set4 w6 (wr.heap.size + 1) (.int .u64 x5) (.slice A6 0 c6) (.int .i64 (d : Int)) (.int .i64 (er : Int))
            have hR7 := (hK.rea.kept0 hk6).keptS hW (by simp; omega)
            have hk7 : Kept [] w _ := (hk5.andThen hk6).trans hW (by simp; omega)
            have h11 := (hr11.kept0 hk6).keptIf hW (fun h => absurd h (by omega))
            have h99 := hrd6.keptIf hW (fun _ a ha => by subst ha; have := hf6 a.block rfl; have := hk6.size; have := HGa.out; have := (Array.getElem?_eq_some_iff.1 HGa.out).1; simp; omega)
            go_wp2_with fail
            refine (same_yes _ _ _ _ _ _ _ h11 h99).mono ?_
            rintro e w7 ⟨rfl, m, rfl⟩
            go_wp2_with fail
            refine (rAt_any r bs _ _ (hR7.drewN m)).mono ?_
            rintro e w8 ⟨rfl, rfl⟩
            rw [Int.natCast_add]
            go_wp2
            go_roundw
            case rel => exact ⟨k + 1, q + d, by omega, by go_num, by go_num, hR7.drewN m, hk7.drewN m, hT.new⟩
            case measure => simp [intOf]; omega
          · go_wp2_with fail
            refine (rText_any r bs q num _ ((hT.rea.kept0 ((Kept.refl [] wr).alloc _)).kept0 ((Kept.refl [] _).alloc _)) n1 n2).mono ?_
            rintro e w5 ⟨T5, v5, d, er, ht, rfl, hK, ho5, hf5⟩
            obtain ⟨A11, n11, c11, rfl, hr11, hbl11⟩ := ho5.form
            have hOa : w5.heap[wr.heap.size]? = some (.cells #[.int .i64 2, .int .i64 num, .int .u64 x, .slice A3 l3 cap3] 30 (0, 0)) := (hK.kept.block _ (by simp; omega) (by simp; omega)).trans (first_block wr _ _)
            have hGa : w5.heap[wr.heap.size + 1]? = some (.cells #[.int .u64 0, .slice none 0 0, .int .i64 0, .int .i64 0] 44 (0, 0)) := (hK.kept.block _ (by simp) (by simp; omega)).trans (next_block wr _ _)
            obtain ⟨⟨o0, o1, o2, o3⟩, _, _⟩ := blk4 hOa
            have hk5 : Kept [] w w5 := ((hT.kept.alloc _).alloc _).trans hK.kept (by simp; omega)
            have hqd := hK.rea.le
            rw [HL.out] at hqd
            have HT5 := Lib.hid ht
            have HOa := Lib.hid hOa
            have HGa := Lib.hid hGa
            clear ht hOa hGa
            go_wp2_with fail
            refine (rfTakeText_at A0 n0 c0 bs q num _ (hr0.kept0 hk5) (by omega) (by omega) n1 n2 HT5.out).mono ?_
            rintro e w6 ⟨v6, rfl, ho6, hk6, hf6⟩
            obtain ⟨A6, n6, c6, rfl, hrd6, hbl6⟩ := ho6.form
            obtain ⟨⟨g0, g1, g2, g3⟩, ⟨f0, f1, f2, f3⟩, hgl⟩ := blk4 ((hk6.block _ (Array.getElem?_eq_some_iff.1 HGa.out).1 (by simp)).trans HGa.out)
            obtain rfl : n11 = n6 := by have := hrd6.len; have := hr11.len; simp at *; omega
            have hg6 : wr.heap.size + 1 < w6.heap.size := hgl
            have hW := set4 w6 (wr.heap.size + 1) (.int .u64 (0 : Int)) (.slice A6 n11 c6) (.int .i64 (d : Int)) (.int .i64 (er : Int))
            have hR7 := (hK.rea.kept0 hk6).keptS hW (by simp; omega)
            have hk7 : Kept [] w _ := (hk5.andThen hk6).trans hW (by simp; omega)
            have h11 := (hr11.kept0 hk6).keptIf hW (fun _ a ha => by subst ha; have := hf5 a.block rfl; simp at this ⊢; omega)
            have h99 := hrd6.keptIf hW (fun _ a ha => by subst ha; have := hf6 a.block rfl; have := hk6.size; have := HGa.out; have := (Array.getElem?_eq_some_iff.1 HGa.out).1; simp; omega)
            go_wp2_with fail
            refine (same_yes _ _ _ _ _ _ _ h11 h99).mono ?_
            rintro e w7 ⟨rfl, m, rfl⟩
            go_wp2_with fail
            refine (rAt_any r bs _ _ (hR7.drewN m)).mono ?_
            rintro e w8 ⟨rfl, rfl⟩
            rw [Int.natCast_add]
            go_wp2
            go_roundw
            case rel => exact ⟨k + 1, q + d, by omega, by go_num, by go_num, hR7.drewN m, hk7.drewN m, hT.new⟩
            case measure => simp [intOf]; omega
          · have p0 : (kind == 0) = false := by simp; omega
            have p1 : (kind == 1) = false := by simp; omega
            have p2 : (kind == 2) = false := by simp; omega
            go_wp2_with fail
            refine (same_yes _ _ _ _ _ [] _ (RdB.nil _) (RdB.nil _)).mono ?_
            rintro e w7 ⟨rfl, m, rfl⟩
            have hR7 := ((hT.rea.kept0 ((Kept.refl [] wr).alloc (.cells #[.int .i64 kind, .int .i64 num, .int .u64 x, .slice A3 l3 cap3] 30))).kept0 ((Kept.refl [] _).alloc (.cells #[.int .u64 0, .slice none 0 0, .int .i64 0, .int .i64 0] 44))).drewN m
            go_wp2_with fail
            refine (rAt_any r bs _ _ hR7).mono ?_
            rintro e w8 ⟨rfl, rfl⟩
            go_wp2
            go_roundw
            case rel => exact ⟨k + 1, q, by omega, by go_num, rfl, hR7, ((hT.kept.alloc _).alloc _).drewN m, hT.new⟩
            case measure => simp [intOf]; omega
        · by_cases hqe : q = n0
          · subst hqe
            have hR := hT.rea
            rw [← HL.out] at hR
            go_wp2_with fail
            refine (rEnd_yes r bs _ hR).mono ?_
            rintro e w5 ⟨rfl, hk5⟩
            go_wp2
            go_ret
            exact ⟨rfl, hT.kept.andThen hk5⟩
          · have hne : ((q : Int) == (n0 : Int)) = false := by simp; omega
            go_wp2_with fail
            refine (rEnd_no r bs q _ hT.rea (by rw [HL.out]; omega)).mono ?_
            rintro e w5 ⟨rfl, hk5⟩
            go_wp2
            go_ret
            exact ⟨rfl, hT.kept.andThen hk5⟩
end Go.Proofs.Ytfkhlnhnanimkaa
