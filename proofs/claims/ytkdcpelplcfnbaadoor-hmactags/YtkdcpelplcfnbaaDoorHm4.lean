/-
  Contracts of layer 3 (hmac): a text's length as bytes, and Tags. No statement of the seed is proved here.
-/
import Derived.Test.YtkdcpelplcfnbaaDoorHm3
import Derived.Test.YtkdcpelplcfnbaaDoorBin2n
namespace Go.Proofs.YtkdcpelplcfnbaaDoor
open Go.RowKit
set_option linter.unusedVariables false

theorem hLen_any (A : Option Addr) (n c : Nat) (w : World) (hn : n < 4294967296) : Calls Tryd.prog 18 #[.slice A n c] w (CloneRet (be 4 n) w) := by
  have hk1 : Kept [] w (w.alloc (.cells #[.slice none 0 0] 50)) := (Kept.refl [] w).alloc _
  have hW := Wri.new w
  have HK := Lib.hid hk1
  have HW := Lib.hid hW
  clear hk1 hW
  go_enter Tryd.func18, Tryd.ntmps18
  go_wp2_with fail
  refine (wNum_any w.heap.size [w.heap.size] [] (n : Int) 4 _ HW.out (by omega) (by omega) (by omega) (by omega) (by rw [Int.toNat_natCast]; omega) (by simp)).mono ?_
  rw [Int.toNat_natCast]
  rintro e w2 ⟨rfl, F2, hP2⟩
  go_wp2_with fail
  refine (wOut_any w.heap.size F2 (be 4 n) _ (by simpa using hP2.wri) (by rw [be_length]; omega)).mono ?_
  rintro e w3 ⟨v3, rfl, ho3, hk3, hf3⟩
  obtain ⟨A3, n3, c3, rfl, hr3, _⟩ := ho3.form
  have hK : Kept [] w w3 := (HK.out.trans hP2.kept (by simp)).andThen hk3
  have hs : w.heap.size ≤ w2.heap.size := (HK.out.trans (T := [w.heap.size]) hP2.kept (by simp)).size
  clear hP2 hk3 HK HW hr3
  go_wp2
  go_ret
  exact ⟨_, rfl, ho3, hK, fun g hg => Nat.le_trans hs (hf3 g hg)⟩

/-- Cells that are texts, none of them in the row u. -/
def TxtO (w : World) (u : Value) (vs : List Value) (ls : List (List UInt8)) : Prop :=
  vs.length = ls.length ∧ ∀ (j : Nat) (v : Value) (l : List UInt8), vs[j]? = some v → ls[j]? = some l → ∃ A n c, v = .slice A n c ∧ RdB w A n c l ∧ (0 < n → ∀ g, u.ownBlock = some g → ∀ a, A = some a → a.block ≠ g)
theorem TxtO.nil (w : World) (u : Value) : TxtO w u [] [] := ⟨rfl, fun j v l h => by simp at h⟩
theorem TxtO.txt {w : World} {u : Value} {vs : List Value} {ls : List (List UInt8)} (h : TxtO w u vs ls) : TxtVs w vs ls :=
  ⟨h.1, fun j v l h1 h2 => by obtain ⟨A, n, c, e, hr, _⟩ := h.2 j v l h1 h2; exact ⟨A, n, c, e, hr⟩⟩
theorem TxtO.kept0 {w w' : World} {u : Value} {vs : List Value} {ls : List (List UInt8)} (h : TxtO w u vs ls) (hk : Kept [] w w') : TxtO w' u vs ls :=
  ⟨h.1, fun j v l h1 h2 => by obtain ⟨A, n, c, e, hr, ho⟩ := h.2 j v l h1 h2; exact ⟨A, n, c, e, hr.kept0 hk, ho⟩⟩
theorem TxtO.app {W W' : World} {u u' : Value} {vs : List Value} {ls : List (List UInt8)} (h : TxtO W u vs ls) (hk : Kept u.ownBlock.toList W W') (hm : Moved W u u') : TxtO W' u' vs ls := by
  refine ⟨h.1, fun j v l h1 h2 => ?_⟩
  obtain ⟨A, n, c, e, hr, ho⟩ := h.2 j v l h1 h2
  refine ⟨A, n, c, e, hr.keptIf hk (fun hn a ha hin => ho hn _ (by simpa using hin) a ha rfl), fun hn g hg a ha => ?_⟩
  rcases hm g hg with h3 | h3
  · exact ho hn g h3 a ha
  · obtain ⟨b, off, e2, hb, _⟩ := hr.at_ hn
    rw [e2] at ha
    injection ha with ha
    subst ha
    show b ≠ g
    omega
theorem TxtO.append {w : World} {u : Value} {vs us : List Value} {ls ms : List (List UInt8)} (h : TxtO w u vs ls) (k : TxtO w u us ms) : TxtO w u (vs ++ us) (ls ++ ms) := by
  refine ⟨by rw [List.length_append, List.length_append, h.1, k.1], fun j v l h1 h2 => ?_⟩
  by_cases hj : j < vs.length
  · rw [List.getElem?_append_left hj] at h1
    rw [List.getElem?_append_left (by rw [← h.1]; exact hj)] at h2
    exact h.2 j v l h1 h2
  · rw [List.getElem?_append_right (by omega)] at h1
    rw [List.getElem?_append_right (by rw [← h.1]; omega), ← h.1] at h2
    exact k.2 _ v l h1 h2
theorem TxtO.two {w : World} {u : Value} {A1 A2 : Option Addr} {n1 n2 c1 c2 : Nat} {b1 b2 : List UInt8} (h1 : RdB w A1 n1 c1 b1) (h2 : RdB w A2 n2 c2 b2)
    (o1 : 0 < n1 → ∀ g, u.ownBlock = some g → ∀ a, A1 = some a → a.block ≠ g) (o2 : 0 < n2 → ∀ g, u.ownBlock = some g → ∀ a, A2 = some a → a.block ≠ g) : TxtO w u [.slice A1 n1 c1, .slice A2 n2 c2] [b1, b2] := by
  refine ⟨rfl, fun j v l e1 e2 => ?_⟩
  match j, e1, e2 with
  | 0, e1, e2 =>
    simp at e1 e2
    subst e1 e2
    exact ⟨A1, n1, c1, rfl, h1, o1⟩
  | 1, e1, e2 =>
    simp at e1 e2
    subst e1 e2
    exact ⟨A2, n2, c2, rfl, h2, o2⟩
  | j + 2, e1, e2 => simp at e1

def pcs (ls : List (List UInt8)) : List (List UInt8) := ls.flatMap fun l => [be 4 l.length, l]
theorem pcs_step (ls : List (List UInt8)) (k : Nat) (l : List UInt8) (h : ls[k]? = some l) : pcs (ls.take (k + 1)) = pcs (ls.take k) ++ [be 4 l.length, l] := by
  unfold pcs; rw [take_step ls k l h, List.flatMap_append]; rfl
theorem pcs_len (ls : List (List UInt8)) : (pcs ls).length = 2 * ls.length := by
  induction ls with
  | nil => rfl
  | cons x l ih => unfold pcs at *; rw [List.flatMap_cons, List.length_append, ih]; simp; omega
theorem pcs_flat (ls : List (List UInt8)) (b : Nat) (h : ∀ l ∈ ls, l.length ≤ b) : (pcs ls).flatten.length ≤ ls.length * (b + 4) := by
  induction ls with
  | nil => simp [pcs]
  | cons x l ih =>
    have h1 := h x (by simp)
    have h2 := ih (fun y hy => h y (by simp [hy]))
    unfold pcs at *
    rw [List.flatMap_cons, List.flatten_append, List.length_append, List.length_cons, Nat.succ_mul]
    have : ([be 4 x.length, x].flatten).length = 4 + x.length := by simp [be_length]
    omega

theorem rdv_two {w : World} {v1 v2 : Value} (e : TypeId) : RdV (w.alloc (.cells #[v1, v2] e)) (some ⟨w.heap.size, 0, none⟩) 2 2 [v1, v2] := by
  refine ⟨rfl, Nat.le_refl _, by simp [maxLen], fun _ => ⟨w.heap.size, 0, rfl, fun j hj => ?_⟩⟩
  have hj3 : j = 0 ∨ j = 1 := by simp at hj; omega
  rcases hj3 with rfl | rfl <;> (rw [cell_of_row _ _ _ _ _ _ (heap_alloc_new w _)]; rfl)

set_option maxRecDepth 100000 in
set_option maxHeartbeats 4000000 in
theorem hTagsF_any (A A' : Option Addr) (n c n' c' : Nat) (key : List UInt8) (ls : List (List UInt8)) (w : World) (hr : RdB w A n c key) (hp : RdL w A' n' c' ls) (hgl : Glob w) (hL : n < 1099511600000) (hn : n' ≤ 100000) (hb : ∀ l ∈ ls, l.length ≤ 1000000) :
    Calls Tryd.prog 11 #[.slice A n c, .slice A' n' c'] w (KeyRet (hTag key (pcs ls).flatten) w) := by
  obtain ⟨i0, hi, hz0, hz1, hz2⟩ := info_parts infoB
  have hln := hp.len
  have hmp := hp.most
  have hcp := hp.cap
  unfold maxLen at hmp
  have Hln := Lib.hid hln
  have Hb := Lib.hid hb
  clear hb hln
  go_enter Tryd.func11, Tryd.ntmps11
  go_wp2_with (with_reducible change wpList _ _ _ (⟨_, Op.alloc _, _, _, _, _⟩ :: _) _ _; refine wpList_alloc_blk rfl 25 rfl _ zero32 ?_)
  intro w1 hR1 hk1 hs1
  obtain ⟨g4, hg4⟩ : ∃ g4, g4 = w.heap.size := ⟨_, rfl⟩
  rw [← hg4] at hR1 ⊢
  have hw4 : w.heap.size ≤ g4 := by omega
  clear hs1 hg4
  go_wp2_with (with_reducible change wpList _ _ _ (⟨_, Op.makeSlice _ _ _, _, _, _, _⟩ :: _) _ _; refine wpList_make_own _ rfl _ _ 28 rfl 0 22 i0 _ 1 Tryd.underlying28 hi hz0 hz1 _ _ _ (2 * n') rfl rfl (by omega) (by rw [hz2]; omega) (by simp only [maxLen]; omega) (Nat.zero_le _) ?_)
  intro w2 ho2 hgr2
  have ho2' : OwV 22 w2 (.slice (some ⟨w1.heap.size, 0, none⟩) 0 (2 * n')) [] := ho2
  have hk2 : Kept [] w1 w2 := (Kept.refl [] w1).grown hgr2 (by simp)
  have hK2 := hk1.andThen hk2
  have hb2 : ∀ g, (Value.slice (some ⟨w1.heap.size, 0, none⟩) 0 (2 * n')).ownBlock = some g → w1.heap.size ≤ g := by intro g hg; simp [Value.ownBlock] at hg; omega
  have Hb2 := Lib.hid hb2
  have HO2 := Lib.hid ho2'
  clear ho2 hgr2 hb2 ho2'
  have hp1 := hp.kept0 hk1
  clear hp
  go_wp2
  go_loopw [5, 14] (fun v i wr => ∃ (k : Nat) (vs : List Value) (A5 : Option Addr) (n5 c5 : Nat), k ≤ n' ∧ i = .int .i64 k ∧ v = .slice A5 n5 c5 ∧ OwV 22 wr (.slice A5 n5 c5) vs ∧ Hid (TxtO wr (.slice A5 n5 c5) vs (pcs (ls.take k))) ∧ Kept [] w1 wr ∧ Hid (∀ g, (Value.slice A5 n5 c5).ownBlock = some g → w1.heap.size ≤ g)) (fun _ i _ => n' - (intOf i).toNat)
  case atStart => exact ⟨0, [], _, 0, 2 * n', by omega, rfl, rfl, HO2.out, Lib.hid (by rw [List.take_zero]; exact TxtO.nil _ _), hk2, Hb2⟩
  case round =>
    obtain ⟨k, vs, A5, n5, c5, hk, rfl, rfl, ho5, HT5, hK5, Hb5⟩ := hrel
    clear HO2 Hb2
    by_cases hlt : k < n'
    · obtain ⟨b, off, rfl, hbl, hcs⟩ := hp1.cells (by omega)
      have hkl : k < ls.length := by have := Hln.out; omega
      obtain ⟨Aj, nj, cj, c0, hrj0⟩ := hcs k hkl
      have c1 := (hK5.cell (p := ⟨b, off + k, none⟩) hbl (by simp)).trans c0
      have hjl : nj ≤ 1000000 := by have h1 := hrj0.len; have h2 := Hb.out ls[k] (List.getElem_mem hkl); omega
      have HS := Lib.hid (pcs_step ls k ls[k] (List.getElem?_eq_getElem hkl))
      have HL : Hid (ls[k].length = nj) := Lib.hid hrj0.len
      have HV : Hid (vs.length = 2 * k) := Lib.hid (by rw [HT5.out.1, pcs_len, List.length_take]; have := Hln.out; omega)
      generalize ls[k] = tk at *
      clear hcs c0
      go_wp2_with fail
      refine (hLen_any Aj nj cj _ (by omega)).mono ?_
      rintro e w6 ⟨v6, rfl, ho6, hk6, hf6⟩
      obtain ⟨A6, n6, c6, rfl, hr6, _⟩ := ho6.form
      have hK6 := hK5.andThen hk6
      have ho56 := ho5.kept0 hk6
      have hlt5 : ∀ g, (Value.slice A5 n5 c5).ownBlock = some g → g < wr.heap.size := by obtain ⟨_, _, _, _, _, hh⟩ := ho5.form; exact hh
      have hT2 : TxtO w6 (.slice A5 n5 c5) [.slice A6 n6 c6, .slice Aj nj cj] [be 4 nj, tk] := by
        refine TxtO.two hr6 (hrj0.kept0 hK6) (fun _ g hg a ha => ?_) (fun hn g hg a ha => ?_)
        · subst ha
          have h1 := hf6 a.block rfl
          have h2 := hlt5 g hg
          omega
        · obtain ⟨b2, off2, e2, hb2, _⟩ := hrj0.at_ hn
          rw [e2] at ha
          injection ha with ha
          subst ha
          have h1 := Hb5.out g hg
          show b2 ≠ g
          omega
      have hT6 := (HT5.out.kept0 hk6).append hT2
      rw [show [be 4 nj, tk] = [be 4 tk.length, tk] by rw [HL.out], ← HS.out] at hT6
      have HT6 := Lib.hid hT6
      have hA : Kept [] w1 (w6.alloc (.cells #[.slice A6 n6 c6, .slice Aj nj cj] 22)) := hK6.alloc _
      have HA := Lib.hid hA
      have HA6 : Hid (Kept [] w6 (w6.alloc (.cells #[.slice A6 n6 c6, .slice Aj nj cj] 22))) := Lib.hid ((Kept.refl [] w6).alloc _)
      clear hT2 hT6 hA hlt5 hr6 hf6 ho6 hk6 ho5 HT5 hrj0 c1 HL
      go_wp2_with (at_builtin; refine wpList_append_vals rfl (.tmp 18) (.tmp 22) 28 rfl 22 i0 _ 24 Tryd.underlying28 hi hz0 hz1 hz2 rfl (.slice A5 n5 c5) vs rfl (ho56.alloc _) _ 2 2 [.slice A6 n6 c6, .slice Aj nj cj] rfl (rdv_two 22) (by simp [Value.oneCell']) (by rw [HV.out]; simp only [maxLen]; omega) (by rw [HV.out]; omega) ?_)
      intro v8 w8 ho8 hk8 hm8
      obtain ⟨hK8, hb8⟩ := app_new HA.out Hb5.out hk8 hm8
      have HT8 := Lib.hid ((HT6.out.kept0 HA6.out).app hk8 hm8)
      obtain ⟨A8, n8, c8, rfl, _, _⟩ := ho8.form
      have Hb8 := Lib.hid hb8
      clear hb8 hk8 hm8 HA HA6 HT6 Hb5 HV HS ho56 hK6 hK5
      go_wp2
      go_roundw
      case rel => exact ⟨k + 1, _, A8, n8, c8, by omega, by go_num, rfl, ho8, HT8, hK8, Hb8⟩
      case measure => simp [intOf]; omega
    · obtain rfl : n' = k := by omega
      have hT := HT5.out
      rw [List.take_of_length_le (by have := Hln.out; omega)] at hT
      have hL5 : RdL wr A5 n5 c5 (pcs ls) := RdL.of_vals ho5.rd hT.txt
      have hn5 : n5 ≤ 200000 := by have h1 := hL5.len; rw [pcs_len] at h1; have := Hln.out; omega
      have hfl : (pcs ls).flatten.length < 1099511000000 := by
        have h1 := pcs_flat ls 1000000 Hb.out
        have h2 : ls.length * (1000000 + 4) ≤ 100000 * (1000000 + 4) := Nat.mul_le_mul_right _ (by have := Hln.out; omega)
        omega
      have hKw := hk1.andThen hK5
      have hR5 := hR1.kept0 hK5
      have ht := hTag_length key (pcs ls).flatten
      clear hT HT5 Hb5 hp1 hR1 hK5 ho5
      go_wp2_with fail
      refine (tag_any A A5 n c n5 c5 key (pcs ls) _ (hr.kept0 hKw) hL5 (hgl.kept0 hKw) hL hfl (by omega)).mono ?_
      rintro e w9 ⟨rfl, hk9⟩
      have hR9 := hR5.kept0 hk9
      have hK9 := hKw.andThen hk9
      clear hR5 hk9 hKw hL5 hfl
      go_wp2_with (with_reducible change wpList _ _ _ (⟨_, Op.store _ _ _, _, _, _, _⟩ :: _) _ _; refine wpList_store_blk rfl 25 (.tmp 4) (.tmp 27) rfl g4 (bvs (hTag key (pcs ls).flatten)) rfl rfl 25 (zb 32) hR9 (size_of_len size32 ht) (zb_len ht) (bvs_one _) ?_)
      intro w10 hR10 hk10 hs10
      go_wp2
      refine bodyPost_ret (results_blk rfl _ g4 25 _ _ rfl hR10 Tryd.underlying25 rfl (size_of_len size32 ht)) rfl ?_
      exact ⟨rfl, hK9.trans hk10 (by simp; omega)⟩
end Go.Proofs.YtkdcpelplcfnbaaDoor
