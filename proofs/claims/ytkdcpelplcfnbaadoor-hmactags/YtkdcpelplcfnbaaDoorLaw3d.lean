/-
  The document's own tag of texts, and the walk of a law of layer 3: the tag of any texts by any key is what the document says. No statement of the seed is proved here.
-/
import Derived.Test.YtkdcpelplcfnbaaDoorLaw3c
import Derived.Test.YtkdcpelplcfnbaaDoorHm4
namespace Go.Proofs.YtkdcpelplcfnbaaDoor
open Go.RowKit
set_option linter.unusedVariables false

set_option maxRecDepth 100000 in
set_option maxHeartbeats 2000000 in
theorem rTags_any (A A' : Option Addr) (n c n' c' : Nat) (key : List UInt8) (ls : List (List UInt8)) (w : World) (hr : RdB w A n c key) (hp : RdL w A' n' c' ls) (hn : n ≤ 100000) (hn' : n' ≤ 100) (hb : ∀ l ∈ ls, l.length ≤ 900) :
    Calls Tryd.prog 12 #[.slice A n c, .slice A' n' c'] w (KeyRet (hTag key (pcs ls).flatten) w) := by
  obtain ⟨i0, hi, hz0, hz1, hz2⟩ := info_parts u8info
  have hln := hp.len
  have hmp := hp.most
  have hcp := hp.cap
  unfold maxLen at hmp
  have Hln := Lib.hid hln
  have Hb := Lib.hid hb
  have HF : Hid (∀ k, (pcs (ls.take k)).flatten.length ≤ 100000) := Lib.hid (fun k => by
    have h1 := pcs_flat (ls.take k) 900 (fun l hl => hb l (List.mem_of_mem_take hl))
    have h3 : (ls.take k).length ≤ 100 := by rw [List.length_take]; omega
    have h2 : (ls.take k).length * (900 + 4) ≤ 100 * (900 + 4) := Nat.mul_le_mul_right _ h3
    omega)
  clear hb hln
  go_enter Tryd.func12, Tryd.ntmps12
  go_wp2_with (with_reducible change wpList _ _ _ (⟨_, Op.alloc _, _, _, _, _⟩ :: _) _ _; refine wpList_alloc_blk rfl 25 rfl _ zero32 ?_)
  intro w1 hR1 hk1 hs1
  obtain ⟨g4, hg4⟩ : ∃ g4, g4 = w.heap.size := ⟨_, rfl⟩
  rw [← hg4] at hR1 ⊢
  have hw4 : w.heap.size ≤ g4 := by omega
  have hp1 := hp.kept0 hk1
  clear hs1 hg4 hp
  go_wp2
  go_loopw [5, 6] (fun v i wr => ∃ (k : Nat) (A5 : Option Addr) (n5 c5 : Nat), k ≤ n' ∧ i = .int .i64 k ∧ v = .slice A5 n5 c5 ∧ OwB 5 wr (.slice A5 n5 c5) (pcs (ls.take k)).flatten ∧ Kept [] w1 wr ∧ Hid (∀ g, (Value.slice A5 n5 c5).ownBlock = some g → w1.heap.size ≤ g)) (fun _ i _ => n' - (intOf i).toNat)
  case atStart => exact ⟨0, none, 0, 0, by omega, rfl, rfl, by rw [List.take_zero]; exact OwB.nil _ _, Kept.refl _ _, Lib.hid (by simp [Value.ownBlock])⟩
  case round =>
    obtain ⟨k, A5, n5, c5, hk, rfl, rfl, ho5, hK5, Hb5⟩ := hrel
    by_cases hlt : k < n'
    · obtain ⟨b, off, rfl, hbl, hcs⟩ := hp1.cells (by omega)
      have hkl : k < ls.length := by have := Hln.out; omega
      obtain ⟨Aj, nj, cj, c0, hrj0⟩ := hcs k hkl
      have c1 := (hK5.cell (p := ⟨b, off + k, none⟩) hbl (by simp)).trans c0
      have hjl : nj ≤ 900 := by have h1 := hrj0.len; have h2 := Hb.out ls[k] (List.getElem_mem hkl); omega
      have HS : Hid ((pcs (ls.take (k + 1))).flatten = (pcs (ls.take k)).flatten ++ be 4 nj ++ ls[k]) := Lib.hid (by
        rw [pcs_step ls k ls[k] (List.getElem?_eq_getElem hkl), List.flatten_append, hrj0.len]; simp)
      have HLk := Lib.hid (HF.out k)
      generalize ls[k] = tk at *
      generalize (pcs (ls.take k)).flatten = pk at *
      clear hcs
      go_wp2_with fail
      refine (rfBytes_any (nj : Int) 4 _ (by omega) (by omega) (by omega)).mono ?_
      rw [Int.toNat_natCast]
      rintro e w6 ⟨v6, rfl, ho6, hk6, hf6⟩
      obtain ⟨A6, n6, c6, rfl, hr6, _⟩ := ho6.form
      have hn6 : n6 = 4 := by have := hr6.len; rw [be_length] at this; omega
      subst hn6
      have hK6 := hK5.andThen hk6
      have ho56 := ho5.kept0 hk6
      clear hk6 hf6 ho6 ho5 c1 hK5
      go_wp2_with (at_builtin; refine wpList_append_bytes rfl (.tmp 13) (.tmp 20) 22 rfl 5 i0 _ 1 Tryd.underlying22 hi hz0 hz1 hz2 rfl (.slice A5 n5 c5) _ rfl ho56 A6 4 c6 (be 4 nj) rfl hr6 (by have := HLk.out; simp only [maxLen]; omega) (by have := HLk.out; omega) ?_)
      intro v7 w7 ho7 hk7 hm7
      obtain ⟨hK7, hb7⟩ := app_new hK6 Hb5.out hk7 hm7
      obtain ⟨A7, n7, c7, rfl, _, _⟩ := ho7.form
      have Hb7 := Lib.hid hb7
      have c2 := (hK7.cell (p := ⟨b, off + k, none⟩) hbl (by simp)).trans c0
      have hrj7 := hrj0.kept0 hK7
      have HL7 : Hid ((pk ++ be 4 nj).length ≤ 100004) := Lib.hid (by rw [List.length_append, be_length]; have := HLk.out; omega)
      clear hb7 hk7 hm7 ho56 hK6 Hb5 hr6
      go_wp2_with (at_builtin; refine wpList_append_bytes rfl (.tmp 22) (.tmp 26) 22 rfl 5 i0 _ 1 Tryd.underlying22 hi hz0 hz1 hz2 rfl (.slice A7 n7 c7) _ rfl ho7 Aj nj cj tk rfl hrj7 (by have := HL7.out; simp only [maxLen]; omega) (by have := HL7.out; omega) ?_)
      intro v8 w8 ho8 hk8 hm8
      obtain ⟨hK8, hb8⟩ := app_new hK7 Hb7.out hk8 hm8
      obtain ⟨A8, n8, c8, rfl, _, _⟩ := ho8.form
      have ho9 : OwB 5 w8 (.slice A8 n8 c8) (pcs (ls.take (k + 1))).flatten := by rw [HS.out]; simpa only [List.append_assoc] using ho8
      have Hb8 := Lib.hid hb8
      have HO := Lib.hid ho9
      clear hb8 hk8 hm8 hK7 Hb7 c2 c0 hrj7 hrj0 HL7 HLk ho7 ho8 ho9 HS
      go_wp2
      go_roundw
      case rel => exact ⟨k + 1, A8, n8, c8, by omega, by go_num, rfl, HO.out, hK8, Hb8⟩
      case measure => simp [intOf]; omega
    · obtain rfl : n' = k := by omega
      have hfl := HF.out ls.length
      rw [List.take_of_length_le (by have := Hln.out; omega)] at ho5
      rw [List.take_of_length_le (Nat.le_refl _)] at hfl
      have hr5 := ho5.rd
      have hn5 : n5 ≤ 100000 := by have := hr5.len; omega
      have hKw := hk1.andThen hK5
      have hR5 := hR1.kept0 hK5
      have ht := hTag_length key (pcs ls).flatten
      clear Hb5 hp1 hR1 hK5 ho5 hfl
      go_wp2_with fail
      refine (rTag_any A A5 n c n5 c5 key (pcs ls).flatten _ (hr.kept0 hKw) hr5 hn hn5).mono ?_
      rintro e w9 ⟨rfl, hk9⟩
      have hR9 := hR5.kept0 hk9
      have hK9 := hKw.andThen hk9
      clear hR5 hk9 hKw hr5
      go_wp2_with (with_reducible change wpList _ _ _ (⟨_, Op.store _ _ _, _, _, _, _⟩ :: _) _ _; refine wpList_store_blk rfl 25 (.tmp 4) (.tmp 30) rfl g4 (bvs (hTag key (pcs ls).flatten)) rfl rfl 25 (zb 32) hR9 (size_of_len size32 ht) (zb_len ht) (bvs_one _) ?_)
      intro w10 hR10 hk10 hs10
      go_wp2
      refine bodyPost_ret (results_blk rfl _ g4 25 _ _ rfl hR10 Tryd.underlying25 rfl (size_of_len size32 ht)) rfl ?_
      exact ⟨rfl, hK9.trans hk10 (by simp; omega)⟩

set_option maxRecDepth 100000 in
set_option maxHeartbeats 2000000 in
theorem tags_walk (A : Option Addr) (n c : Nat) (key : List UInt8) (A' : Option Addr) (n' c' : Nat) (ls : List (List UInt8)) (w : World) (hgl : Glob w) (ha : RdB w A n c key) (hr : RdL w A' n' c' ls) :
    Calls Tryd.prog 4 #[.slice A n c, .slice A' n' c'] w fun e w' => e = .returned (.bool true) ∧ Kept [] w w' := by
  have hm := hr.most
  have hcc := hr.cap
  have hma := ha.most
  have hca := ha.cap
  unfold maxLen at hm hma
  by_cases h1 : 300 < n
  · go_enter Tryd.func4, Tryd.ntmps4
    go_wp2_with fail
    refine (wakes_any _ hgl).mono ?_
    rintro e w3 ⟨rfl, hk1⟩
    go_wp2
    go_ret
    exact ⟨rfl, hk1⟩
  by_cases h2 : 20 < n'
  · go_enter Tryd.func4, Tryd.ntmps4
    go_wp2_with fail
    refine (wakes_any _ hgl).mono ?_
    rintro e w3 ⟨rfl, hk1⟩
    go_wp2
    go_ret
    exact ⟨rfl, hk1⟩
  go_enter Tryd.func4, Tryd.ntmps4
  go_wp2_with fail
  refine (wakes_any _ hgl).mono ?_
  rintro e w3 ⟨rfl, hk1⟩
  have hr1 := hr.kept0 hk1
  have ha1 := ha.kept0 hk1
  have hgl1 := hgl.kept0 hk1
  have hlen := hr.len
  have Hlen := Lib.hid hlen
  clear hgl hr hlen ha
  go_wp2
  go_loopw [18] (fun i wr => ∃ k : Nat, k ≤ n' ∧ i = .int .i64 k ∧ wr = w3 ∧ Hid (∀ l ∈ ls.take k, l.length ≤ 300)) (fun i _ => n' - (intOf i).toNat)
  case atStart => exact ⟨0, by omega, rfl, rfl, by intro l hl; simp at hl⟩
  case round =>
    obtain ⟨k, hk, rfl, rfl, H⟩ := hrel
    by_cases hlt : k < n'
    · obtain ⟨b, off, rfl, hb, hc⟩ := hr1.cells (by omega)
      have hkl : k < ls.length := by have := Hlen.out; omega
      obtain ⟨Aj, nj, cj, c0, hrj⟩ := hc k hkl
      have hjl := hrj.len
      by_cases hbig : 300 < nj
      · clear hc hr1 hrj hjl
        go_wp2
        go_ret
        exact ⟨rfl, hk1⟩
      · have Hn : Hid (∀ l ∈ ls.take (k + 1), l.length ≤ 300) := by
          show ∀ l ∈ ls.take (k + 1), l.length ≤ 300
          intro l hl
          rw [take_step ls k ls[k] (List.getElem?_eq_getElem hkl), List.mem_append] at hl
          rcases hl with hl | hl
          · exact H.out l hl
          · simp at hl
            subst hl
            omega
        clear hc hr1 hrj hjl
        go_wp2
        go_roundw
        case rel => exact ⟨k + 1, by omega, by go_num, trivial, Hn⟩
        case measure => simp [intOf]; omega
    · obtain rfl : n' = k := by omega
      have Hall : Hid (∀ l ∈ ls, l.length ≤ 300) := Lib.hid (by
        have h1 := H.out
        rw [List.take_of_length_le (by have := Hlen.out; omega)] at h1
        exact h1)
      clear H hlt hk
      go_wp2_with fail
      refine (hTagsF_any A A' n c n' c' key ls _ ha1 hr1 hgl1 (by omega) (by omega) (fun l hl => by have := Hall.out l hl; omega)).mono ?_
      rintro e w5 ⟨rfl, hk5⟩
      go_wp2_with fail
      refine (rTags_any A A' n c n' c' key ls _ (ha1.kept0 hk5) (hr1.kept0 hk5) (by omega) (by omega) (fun l hl => by have := Hall.out l hl; omega)).mono ?_
      rintro e w6 ⟨rfl, hk6⟩
      have hg := fun W x y => run_eqGuard_agg (P := Tryd.prog) W .eql 25 x y (bvs (hTag key (pcs ls).flatten)).toArray (bvs (hTag key (pcs ls).flatten)).toArray (by kernel_rfl)
      have heq := fun W => run_equalIn_key (hTag key (pcs ls).flatten) (hTag_length _ _) W
      go_wp2
      go_ret
      exact ⟨rfl, (hk1.andThen hk5).andThen hk6⟩
end Go.Proofs.YtkdcpelplcfnbaaDoor
