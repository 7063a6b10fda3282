/-
  The walk of the law on whatever is put. No statement of the seed is proved here.
-/
import Derived.Test.YtfkhlnhnanimkaaLaw1a
import Derived.Test.YtfkhlnhnanimkaaRef1b
import Derived.Test.YtfkhlnhnanimkaaActs1
namespace Go.Proofs.Ytfkhlnhnanimkaa
open Go.RowKit
set_option linter.unusedVariables false

def LongRet (n : Nat) (l : List ActD) (w : World) (e : Ending) (w' : World) : Prop := ∃ b : Bool, e = .returned (.bool b) ∧ w = w' ∧ (b = false → n ≤ 100 ∧ ∀ a ∈ l, a.len ≤ 500)

theorem long_any (A : Option Addr) (n c : Nat) (l : List ActD) (w : World) (hr : RdActs w A n c l) : Calls Try.prog 10 #[.slice A n c] w (LongRet n l w) := by
  have hcc := hr.cap
  have hcm := hr.most
  unfold maxLen at hcm
  by_cases hn : 100 < n
  · go_enter Try.func10, Try.ntmps10
    go_wp2
    go_ret
    exact ⟨true, rfl, rfl, by simp⟩
  · go_enter Try.func10, Try.ntmps10
    go_wp2
    go_loop [9] (fun i => ∃ k : Nat, k ≤ n ∧ i = .int .i64 k ∧ ∀ a ∈ l.take k, a.len ≤ 500) (fun i => n - (intOf i).toNat)
    case atStart => exact ⟨0, by omega, rfl, by simp⟩
    case round =>
      obtain ⟨k, hk, rfl, hsm⟩ := hrel
      by_cases hlt : k < n
      · obtain ⟨b, off, a, rfl, ha, hat⟩ := hr.at_ hlt
        have c3 := hat.c3
        have tl := hat.text.cap
        have tm := hat.text.most
        unfold maxLen at tm
        have hts := take_step l k a ha
        have H := Lib.hid hts
        have HM := Lib.hid hsm
        clear hts hsm ha
        obtain ⟨kind, num, x, A3, l3, cap3, bs⟩ := a
        simp only at c3 tl tm
        by_cases h5 : 500 < l3
        · go_wp2
          go_ret
          exact ⟨true, rfl, rfl, by simp⟩
        · go_wp2
          go_round
          case rel =>
            refine ⟨k + 1, by omega, by go_num, ?_⟩
            rw [H.out]
            intro a ha
            rw [List.mem_append, List.mem_singleton] at ha
            rcases ha with ha | rfl
            · exact HM.out a ha
            · show l3 ≤ 500; omega
          case measure => simp [intOf]; omega
      · have hl := hr.len
        have e : l.take k = l := List.take_of_length_le (by omega)
        have HM := Lib.hid hsm
        clear hsm hl
        have H := Lib.hid e
        clear e
        go_wp2
        go_ret
        refine ⟨false, rfl, rfl, fun _ => ⟨by omega, ?_⟩⟩
        have := HM.out
        rw [H.out] at this
        exact this

theorem wNum_all (p : Nat) (F : List Nat) (xs : List UInt8) (x n : Int) (w : World) (hw : Wri w p F xs) (h0 : 0 ≤ x) (h1 : x ≤ 18446744073709551615) (hb : xs.length ≤ 140737488355000) :
    Calls Try.prog 11 #[.pointer (some ⟨p, 0, none⟩), .int .u64 x, .int .i64 n] w (PutRet p F xs (pnum x.toNat n).1 w (.int .i64 (pnum x.toNat n).2)) := by
  unfold pnum
  by_cases hn : n < 1 ∨ 8 < n
  · rw [if_pos hn]
    exact (wNum_arg p x n w hn).mono fun e w' ⟨he, hw'⟩ => ⟨he, F, by subst hw'; exact Puts.refl hw⟩
  · obtain ⟨m, rfl⟩ := Int.eq_ofNat_of_zero_le (show 0 ≤ n by omega)
    rw [if_neg hn, Int.toNat_natCast]
    by_cases hx : 256 ^ m ≤ x.toNat
    · rw [if_pos hx]
      exact (wNum_range p x m w h0 h1 (by omega) (by omega) hx).mono fun e w' ⟨he, hw'⟩ => ⟨he, F, by subst hw'; exact Puts.refl hw⟩
    · rw [if_neg hx]
      exact wNum_any p F xs x m w hw h0 h1 (by omega) (by omega) (by omega) hb
theorem wSmall_all (p : Nat) (F : List Nat) (xs : List UInt8) (x : Int) (w : World) (hw : Wri w p F xs) (h0 : 0 ≤ x) (h1 : x ≤ 18446744073709551615) (hb : xs.length ≤ 140737488354000) :
    Calls Try.prog 13 #[.pointer (some ⟨p, 0, none⟩), .int .u64 x] w (PutRet p F xs (psmall x.toNat).1 w (.int .i64 (psmall x.toNat).2)) := by
  unfold psmall
  by_cases hx : 4294967296 ≤ x.toNat
  · rw [if_pos hx]
    exact (wSmall_range p x w (by omega)).mono fun e w' ⟨he, hw'⟩ => ⟨he, F, by subst hw'; exact Puts.refl hw⟩
  · rw [if_neg hx]
    exact wSmall_any p F xs x w hw h0 (by omega) hb
theorem pnum_len (x : Nat) (n : Int) : (pnum x n).1.length ≤ 8 := by
  unfold pnum
  split
  · simp
  · split
    · simp
    · rw [be_length]; omega
theorem fol_le (n : Nat) : fol n ≤ 8 := by unfold fol; split; omega; exact (wid_pos n).2
theorem psmall_len (x : Nat) : (psmall x).1.length ≤ 9 := by
  unfold psmall
  split
  · simp
  · rw [sm_length]; have := fol_le x; omega

theorem Kept.drewN0 {S : List Nat} (w : World) (n : Nat) : Kept S w (w.drewN n) := (Kept.refl S w).drewN n

/-- What holds from act to act: the writer, and all that was put, in rows of their own. -/
structure Both (p : Nat) (w wr : World) (F : List Nat) (v : Value) (bs : List UInt8) : Prop where
  wri : Wri wr p F bs
  all : OwB 5 wr v bs
  kept : Kept [] w wr
  newF : ∀ k, k ∈ F → w.heap.size ≤ k
  newV : ∀ g, v.ownBlock = some g → w.heap.size ≤ g ∧ g ∉ F
theorem Both.step {p : Nat} {w wr w1 w2 w3 : World} {F F1 : List Nat} {v v' : Value} {bs news : List UInt8} (h : Both p w wr F v bs) (hP : Puts p F bs news wr w1 F1) (hk2 : Kept [] w1 w2) (hown : OwB 5 w3 v' (bs ++ news)) (hk3 : Kept v.ownBlock.toList w2 w3) (hm : Moved w2 v v') :
    Both p w w3 F1 v' (bs ++ news) := by
  have hs := h.kept.size
  have hs1 := hP.kept.size
  have hs2 := hk2.size
  have hf : ∀ k, k ∈ F1 → w.heap.size ≤ k := fun k hk => by
    rcases hP.foot k hk with g | g
    · exact h.newF k g
    · omega
  have hlt := hP.wri.foot
  have hvlt : ∀ g, v.ownBlock = some g → g < wr.heap.size := by
    obtain ⟨_, _, _, _, _, hb⟩ := h.all.form
    exact hb
  refine ⟨(hP.wri.kept0 hk2).kept hk3 ?_, hown, ((h.kept.trans hP.kept (fun k hk => .inr (h.newF k hk))).andThen hk2).trans hk3 (fun g hg => .inr (h.newV g (by simpa using hg)).1), hf, ?_⟩
  · intro k hk hk'
    have hk'' : v.ownBlock = some k := by simpa using hk'
    obtain ⟨g1, g2⟩ := h.newV k hk''
    rcases hP.foot k hk with g | g
    · exact g2 g
    · have := hvlt k hk''; omega
  · intro g hg
    rcases hm g hg with h1 | h1
    · obtain ⟨g1, g2⟩ := h.newV g h1
      refine ⟨g1, fun hgF => ?_⟩
      rcases hP.foot g hgF with g3 | g3
      · exact g2 g3
      · have := hvlt g h1; omega
    · refine ⟨by omega, fun hgF => ?_⟩
      have := hlt g hgF
      omega

theorem Both.after {p : Nat} {w wr w1 : World} {F : List Nat} {v : Value} {bs : List UInt8} (h : Both p w wr F v bs) (hk : Kept [] wr w1) : Both p w w1 F v bs := ⟨h.wri.kept0 hk, h.all.kept0 hk, h.kept.andThen hk, h.newF, h.newV⟩
theorem Both.all1 {p : Nat} {w wr w1 w2 : World} {F F1 : List Nat} {v : Value} {bs news : List UInt8} (h : Both p w wr F v bs) (hP : Puts p F bs news wr w1 F1) (hk2 : Kept [] w1 w2) : OwB 5 w2 v bs :=
  (h.all.kept hP.kept (fun g hg => (h.newV g hg).2)).kept0 hk2
/-- The four cells of a copy of an act, behind a call that turns other blocks. -/
theorem copy_cells {wr w5 : World} {S : List Nat} {v0 v1 v2 v3 : Value} {t : TypeId} (hk : Kept S (wr.alloc (.cells #[v0, v1, v2, v3] t)) w5) (hS : wr.heap.size ∉ S) :
    w5.cell? ⟨wr.heap.size, 0, none⟩ = some v0 ∧ w5.cell? ⟨wr.heap.size, 1, none⟩ = some v1 ∧ w5.cell? ⟨wr.heap.size, 2, none⟩ = some v2 ∧ w5.cell? ⟨wr.heap.size, 3, none⟩ = some v3 := by
  have hb : w5.heap[wr.heap.size]? = some (.cells #[v0, v1, v2, v3] t (0, 0)) := (hk.block wr.heap.size (by simp) hS).trans (heap_alloc_new wr _)
  exact ⟨by rw [cell_of_row _ _ _ _ _ _ hb]; rfl, by rw [cell_of_row _ _ _ _ _ _ hb]; rfl, by rw [cell_of_row _ _ _ _ _ _ hb]; rfl, by rw [cell_of_row _ _ _ _ _ _ hb]; rfl⟩

set_option maxHeartbeats 1000000 in
theorem puts_walk (A : Option Addr) (n c : Nat) (l : List ActD) (w : World) (hr : RdActs w A n c l) :
    Calls Try.prog 3 #[.slice A n c] w fun e w' => e = .returned (.bool true) ∧ Kept [] w w' := by
  obtain ⟨i0, hi, hz0, hz1, hz2⟩ := info_parts u8info
  have hcc := hr.cap
  have hcm := hr.most
  unfold maxLen at hcm
  go_enter Try.func3, Try.ntmps3
  go_wp2_with fail
  refine (wakes_any _).mono ?_
  rintro e w1 ⟨rfl, hk1⟩
  have hr1 : RdActs w1 A n c l := ⟨hr.len, hr.cap, hr.most, fun h0 => by
    obtain ⟨b, off, e, hh⟩ := hr.cells h0
    exact ⟨b, off, e, fun j hj => (hh j hj).kept0 hk1⟩⟩
  go_wp2_with fail
  refine (long_any A n c l _ hr1).mono ?_
  rintro e w2 ⟨b, rfl, rfl, hb⟩
  cases b with
  | true =>
    go_wp2
    go_ret
    exact ⟨rfl, hk1⟩
  | false =>
    obtain ⟨hn100, h500⟩ := hb rfl
    have H500 := Lib.hid h500
    have hs1 := hk1.size
    clear hb h500
    go_wp2
    go_loopw [4, 17] (fun v i wr => ∃ (k : Nat) (F : List Nat) (bs : List UInt8), k ≤ n ∧ i = .int .i64 k ∧ bs.length ≤ 600 * k ∧ Both w1.heap.size w wr F v bs) (fun _ i _ => n - (intOf i).toNat)
    case atStart =>
      refine ⟨0, [w1.heap.size], [], by omega, rfl, by simp, Wri.new w1, OwB.nil _ _, hk1.alloc _, by simp; omega, by simp [Value.ownBlock]⟩
    case round =>
      obtain ⟨k, F, bs, hk, rfl, hbl, hB⟩ := hrel
      obtain ⟨A4, n4, c4, hv4, hrd4, hbl4⟩ := hB.all.form
      subst hv4
      by_cases hlt : k < n
      · obtain ⟨b, off, a, rfl, ha, hat⟩ := hr.at_ hlt
        have hmem : a ∈ l := List.mem_of_getElem? ha
        have h5 := H500.out a hmem
        have hw := hat.kept0 hB.kept
        obtain ⟨kind, num, x, A3, l3, cap3, bs3⟩ := a
        have c0 := hw.c0
        have c1 := hw.c1
        have c2 := hw.c2
        have c3 := hw.c3
        have ht := hat.text
        obtain ⟨x0, x1⟩ := hat.x0
        obtain ⟨n1, n2⟩ := hat.n0
        obtain ⟨k1, k2⟩ := hat.k0
        simp only at c0 c1 c2 c3 ht x0 x1 n1 n2 k1 k2 h5
        clear ha hmem hw hat
        have hFl := hB.wri.foot
        have hnF : wr.heap.size ∉ F := fun h => by have := hFl _ h; omega
        have hkin : kind = 0 ∨ kind = 1 ∨ kind = 2 ∨ (kind ≠ 0 ∧ kind ≠ 1 ∧ kind ≠ 2) := by omega
        rcases hkin with rfl | rfl | rfl | ⟨q0, q1, q2⟩
        · go_wp2_with fail
          refine (wNum_all _ _ _ x num _ (hB.wri.alloc _) x0 x1 (by omega)).mono ?_
          rintro e w5 ⟨rfl, F5, hP0⟩
          obtain ⟨d0, d1, d2, d3⟩ := copy_cells hP0.kept hnF
          have hP := hP0.alloc
          have hnl := pnum_len x.toNat num
          go_wp2_with fail
          refine (rfNum_any x num _ x0 x1).mono ?_
          rintro e w6 ⟨v6, rfl, ho6, hk6, hf6⟩
          obtain ⟨A9, n9, c9, rfl, hrd9, hbl9⟩ := ho6.form
          have hl9 := hrd9.len
          have hall := hB.all1 hP hk6
          have hb9 : n9 ≤ 600 := by omega
          clear hl9
          go_wp2_with (at_builtin; refine wpList_append_bytes rfl (.tmp 68) (.tmp 69) 25 rfl 5 i0 _ 1 Try.underlying25 hi hz0 hz1 hz2 rfl (.slice A4 n4 c4) bs rfl hall A9 n9 c9 _ rfl hrd9 (by simp only [maxLen]; omega) (by omega) ?_; intro v7 w7 hown7 hk7 hm7)
          have hB7 := hB.step hP hk6 hown7 hk7 hm7
          obtain ⟨A7, n7, c7, rfl, hrd7, hbl7⟩ := hown7.form
          refine (wOut_any _ _ _ _ hB7.wri (by rw [List.length_append]; omega)).mono ?_
          rintro e w8 ⟨v8, rfl, ho8, hk8, hf8⟩
          obtain ⟨A8, n8, c8, rfl, hrd8, hbl8⟩ := ho8.form
          obtain rfl : n7 = n8 := hrd7.len.symm.trans hrd8.len
          go_wp2_with fail
          refine (same_yes _ _ _ _ _ _ _ hrd8 (hrd7.kept0 hk8)).mono ?_
          rintro e w9 ⟨rfl, m, rfl⟩
          go_wp2
          go_roundw
          case rel => exact ⟨k + 1, F5, _, by omega, by go_num, by rw [List.length_append]; omega, hB7.after (hk8.drewN m)⟩
          case measure => simp [intOf]; omega
        · go_wp2_with fail
          refine (wSmall_all _ _ _ x _ (hB.wri.alloc _) x0 x1 (by omega)).mono ?_
          rintro e w5 ⟨rfl, F5, hP0⟩
          obtain ⟨d0, d1, d2, d3⟩ := copy_cells hP0.kept hnF
          have hP := hP0.alloc
          have hnl := psmall_len x.toNat
          go_wp2_with fail
          refine (rfSmall_any x _ x0 x1).mono ?_
          rintro e w6 ⟨v6, rfl, ho6, hk6, hf6⟩
          obtain ⟨A9, n9, c9, rfl, hrd9, hbl9⟩ := ho6.form
          have hl9 := hrd9.len
          have hall := hB.all1 hP hk6
          have hb9 : n9 ≤ 600 := by omega
          clear hl9
          go_wp2_with (at_builtin; refine wpList_append_bytes rfl (.tmp 68) (.tmp 69) 25 rfl 5 i0 _ 1 Try.underlying25 hi hz0 hz1 hz2 rfl (.slice A4 n4 c4) bs rfl hall A9 n9 c9 _ rfl hrd9 (by simp only [maxLen]; omega) (by omega) ?_; intro v7 w7 hown7 hk7 hm7)
          have hB7 := hB.step hP hk6 hown7 hk7 hm7
          obtain ⟨A7, n7, c7, rfl, hrd7, hbl7⟩ := hown7.form
          refine (wOut_any _ _ _ _ hB7.wri (by rw [List.length_append]; omega)).mono ?_
          rintro e w8 ⟨v8, rfl, ho8, hk8, hf8⟩
          obtain ⟨A8, n8, c8, rfl, hrd8, hbl8⟩ := ho8.form
          obtain rfl : n7 = n8 := hrd7.len.symm.trans hrd8.len
          go_wp2_with fail
          refine (same_yes _ _ _ _ _ _ _ hrd8 (hrd7.kept0 hk8)).mono ?_
          rintro e w9 ⟨rfl, m, rfl⟩
          go_wp2
          go_roundw
          case rel => exact ⟨k + 1, F5, _, by omega, by go_num, by rw [List.length_append]; omega, hB7.after (hk8.drewN m)⟩
          case measure => simp [intOf]; omega
        · have htr := ht.kept0 hB.kept
          have hln := ht.len
          have hown0 : OwB 5 ((wr.alloc (.cells #[.int .i64 2, .int .i64 num, .int .u64 x, .slice A3 l3 cap3] 30)).alloc (.cells #[] 5)) (.slice (some ⟨wr.heap.size + 1, 0, none⟩) 0 0) [] := by
            have := World.ownsRow_lit (base := 0) (e := 5) (size := 1) (wr.alloc (.cells #[.int .i64 2, .int .i64 num, .int .u64 x, .slice A3 l3 cap3] 30)) #[] 0 (Nat.zero_le _) (by simp [maxLen]) rfl
            simpa [OwB, bvs] using this
          have HLN := Lib.hid hln
          clear hln
          go_wp2_with (at_builtin; refine wpList_append_bytes rfl (.tmp 51) (.tmp 53) 25 rfl 5 i0 _ 1 Try.underlying25 hi hz0 hz1 hz2 rfl (.slice (some ⟨wr.heap.size + 1, 0, none⟩) 0 0) [] rfl hown0 A3 l3 cap3 _ rfl ((htr.alloc _).alloc _) (by simp only [maxLen, List.length_nil]; omega) (by simp only [List.length_nil]; omega) ?_; intro v4 w4 hown4 hk4 hm4; obtain ⟨A5, n5, c5, rfl, hrd5, hbl5⟩ := hown4.form)
          rw [List.nil_append] at hown4 hrd5
          obtain rfl : l3 = n5 := HLN.out.symm.trans hrd5.len
          have hcp : Kept [wr.heap.size + 1] (wr.alloc (.cells #[.int .i64 2, .int .i64 num, .int .u64 x, .slice A3 l3 cap3] 30)) w4 := ((Kept.refl _ _).alloc _).trans hk4 (by simp [Value.ownBlock])
          have hk04 : Kept [] wr w4 := ((Kept.refl _ _).alloc _).trans hcp (by simp)
          have hoff : 0 < l3 → Off A5 F := by
            intro _ a ha hmF
            subst ha
            have h1 := hFl _ hmF
            rcases hm4 a.block rfl with h2 | h2
            · simp [Value.ownBlock] at h2; omega
            · simp at h2; omega
          refine (wText_any _ _ _ A5 l3 c5 bs3 _ (hB.wri.kept0 hk04) hrd5 hoff (by omega) (by omega)).mono ?_
          rintro e w5 ⟨rfl, F5, hP0⟩
          have hnn : wr.heap.size ∉ (wr.heap.size + 1) :: F := by simp; exact hnF
          obtain ⟨d0, d1, d2, d3⟩ := copy_cells (S := (wr.heap.size + 1) :: F) ((hcp.mono (by simp)).trans hP0.kept (fun i hi => .inl (List.mem_cons_of_mem _ hi))) hnn
          have hP := hP0.since hk04
          have hnl : (sm l3 ++ bs3).length ≤ 600 := by rw [List.length_append, sm_length, HLN.out]; have := fol_le l3; omega
          have ht5 : RdB w5 A3 l3 cap3 bs3 := ht.kept0 (hB.kept.trans hP.kept (fun i hi => .inr (hB.newF i hi)))
          go_wp2_with fail
          refine (rfText_any A3 l3 cap3 bs3 _ ht5 (by omega)).mono ?_
          rintro e w60 ⟨v6, rfl, ho60, hk60, hf6⟩
          have e3 : w60.cell? ⟨wr.heap.size, 3, none⟩ = some (.slice A3 l3 cap3) := (hk60.cell (p := ⟨wr.heap.size, 3, none⟩) (World.block_lt_of_cell? _ _ d3) (by simp)).trans d3
          have hown5 : RdB w60 A5 l3 c5 bs3 := (hrd5.keptIf hP0.kept hoff).kept0 hk60
          go_wp2_with fail
          refine (same_yes _ _ _ _ _ bs3 _ hown5 (ht5.kept0 hk60)).mono ?_
          rintro e w6 ⟨rfl, m0, rfl⟩
          have hk6 := hk60.drewN m0
          have ho6 := ho60.kept0 (Kept.drewN0 w60 m0)
          obtain ⟨A9, n9, c9, rfl, hrd9, hbl9⟩ := ho6.form
          have hl9 := hrd9.len
          have hall := hB.all1 hP hk6
          have hb9 : n9 ≤ 600 := by omega
          clear hl9
          go_wp2_with (at_builtin; refine wpList_append_bytes rfl (.tmp 68) (.tmp 69) 25 rfl 5 i0 _ 1 Try.underlying25 hi hz0 hz1 hz2 rfl (.slice A4 n4 c4) bs rfl hall A9 n9 c9 _ rfl hrd9 (by simp only [maxLen]; omega) (by omega) ?_; intro v7 w7 hown7 hk7 hm7)
          have hB7 := hB.step hP hk6 hown7 hk7 hm7
          obtain ⟨A7, n7, c7, rfl, hrd7, hbl7⟩ := hown7.form
          refine (wOut_any _ _ _ _ hB7.wri (by rw [List.length_append]; omega)).mono ?_
          rintro e w8 ⟨v8, rfl, ho8, hk8, hf8⟩
          obtain ⟨A8, n8, c8, rfl, hrd8, hbl8⟩ := ho8.form
          obtain rfl : n7 = n8 := hrd7.len.symm.trans hrd8.len
          go_wp2_with fail
          refine (same_yes _ _ _ _ _ _ _ hrd8 (hrd7.kept0 hk8)).mono ?_
          rintro e w9 ⟨rfl, m, rfl⟩
          go_wp2
          go_roundw
          case rel => exact ⟨k + 1, F5, _, by omega, by go_num, by rw [List.length_append]; omega, hB7.after (hk8.drewN m)⟩
          case measure => simp [intOf]; omega
        · have p0 : (kind == 0) = false := by simp; omega
          have p1 : (kind == 1) = false := by simp; omega
          have p2 : (kind == 2) = false := by simp; omega
          obtain ⟨F5, hF5⟩ : ∃ F5, F5 = F := ⟨F, rfl⟩
          have hP : Puts w1.heap.size F bs [] wr wr F5 := by subst hF5; exact Puts.refl hB.wri
          have hk6 : Kept [] wr (wr.alloc (.cells #[.int .i64 kind, .int .i64 num, .int .u64 x, .slice A3 l3 cap3] 30)) := (Kept.refl _ _).alloc _
          have ho6 : OwB 5 (wr.alloc (.cells #[.int .i64 kind, .int .i64 num, .int .u64 x, .slice A3 l3 cap3] 30)) (.slice none 0 0) [] := OwB.nil _ _
          have hnl : ([] : List UInt8).length ≤ 8 := by simp
          clear hF5
          have hall := hB.all1 hP hk6
          have hrd9 := RdB.nil (wr.alloc (.cells #[.int .i64 kind, .int .i64 num, .int .u64 x, .slice A3 l3 cap3] 30))
          go_wp2_with (at_builtin; refine wpList_append_bytes rfl (.tmp 68) (.tmp 69) 25 rfl 5 i0 _ 1 Try.underlying25 hi hz0 hz1 hz2 rfl (.slice A4 n4 c4) bs rfl hall none 0 0 [] rfl hrd9 (by simp only [maxLen]; omega) (by omega) ?_; intro v7 w7 hown7 hk7 hm7)
          have hB7 := hB.step hP hk6 hown7 hk7 hm7
          obtain ⟨A7, n7, c7, rfl, hrd7, hbl7⟩ := hown7.form
          refine (wOut_any _ _ _ _ hB7.wri (by rw [List.length_append]; omega)).mono ?_
          rintro e w8 ⟨v8, rfl, ho8, hk8, hf8⟩
          obtain ⟨A8, n8, c8, rfl, hrd8, hbl8⟩ := ho8.form
          obtain rfl : n7 = n8 := hrd7.len.symm.trans hrd8.len
          go_wp2_with fail
          refine (same_yes _ _ _ _ _ _ _ hrd8 (hrd7.kept0 hk8)).mono ?_
          rintro e w9 ⟨rfl, m, rfl⟩
          go_wp2
          go_roundw
          case rel => exact ⟨k + 1, F5, _, by omega, by go_num, by rw [List.length_append]; omega, hB7.after (hk8.drewN m)⟩
          case measure => simp [intOf]; omega
      · go_wp2
        go_ret
        exact ⟨rfl, hB.kept⟩
end Go.Proofs.Ytfkhlnhnanimkaa
