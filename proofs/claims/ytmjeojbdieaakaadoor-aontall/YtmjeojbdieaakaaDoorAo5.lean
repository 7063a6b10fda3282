/-
  Contract of layer 11, the document's own: slices of a class, one behind the other. No statement of the seed is proved here.
-/
import Derived.Test.YtmjeojbdieaakaaDoorAo1
import Derived.Test.YtmjeojbdieaakaaDoorPb
namespace Go.Proofs.YtmjeojbdieaakaaDoor
open Go.RowKit
set_option linter.unusedVariables false

/-- What joining some slices answers. -/
@[irreducible] def joinE (cl : Int) (ls : List (List UInt8)) : Int :=
  if ¬ (isCls cl = true ∧ 1 ≤ ls.length ∧ ls.length ≤ 255) then 14 else if ∃ l, l ∈ ls ∧ l.length ≠ sizN cl.toNat ls.length then 2 else 0
@[irreducible] def joinV (cl : Int) (ls : List (List UInt8)) : List UInt8 := if joinE cl ls = 0 then ls.flatten else []
theorem joinE_arg {cl : Int} {ls : List (List UInt8)} (h : ¬ (isCls cl = true ∧ 1 ≤ ls.length ∧ ls.length ≤ 255)) : joinE cl ls = 14 := by unfold joinE; rw [if_pos h]
theorem joinE_form {cl : Int} {ls : List (List UInt8)} (h : isCls cl = true ∧ 1 ≤ ls.length ∧ ls.length ≤ 255) (g : ∃ l, l ∈ ls ∧ l.length ≠ sizN cl.toNat ls.length) : joinE cl ls = 2 := by
  unfold joinE; rw [if_neg (fun f => f h), if_pos g]
theorem joinE_ok {cl : Int} {ls : List (List UInt8)} (h : isCls cl = true ∧ 1 ≤ ls.length ∧ ls.length ≤ 255) (g : ∀ l, l ∈ ls → l.length = sizN cl.toNat ls.length) : joinE cl ls = 0 := by
  unfold joinE
  rw [if_neg (fun f => f h), if_neg]
  rintro ⟨l, h1, h2⟩
  exact h2 (g l h1)
theorem joinV_ok {cl : Int} {ls : List (List UInt8)} (h : joinE cl ls = 0) : joinV cl ls = ls.flatten := by unfold joinV; rw [if_pos h]
theorem joinV_no {cl : Int} {ls : List (List UInt8)} (h : joinE cl ls ≠ 0) : joinV cl ls = [] := by unfold joinV; rw [if_neg h]
/-- Bytes of the call's own, and an error. -/
def JoinRet (bs : List UInt8) (x : Int) (w : World) (e : Ending) (w' : World) : Prop :=
  ∃ v, e = .returned (.tuple #[v, .int .i64 x]) ∧ OwB 5 w' v bs ∧ Kept [] w w' ∧ ∀ g, v.ownBlock = some g → w.heap.size ≤ g
theorem flatten_len {S : Nat} : ∀ (ls : List (List UInt8)), (∀ l, l ∈ ls → l.length = S) → ls.flatten.length = ls.length * S
  | [], _ => by simp
  | l :: r, h => by
    rw [List.flatten_cons, List.length_append, h l (by simp), flatten_len r (fun l' h' => h l' (by simp [h'])), List.length_cons, Nat.succ_mul]
    omega

set_option maxRecDepth 100000 in
set_option maxHeartbeats 4000000 in
theorem rAJoin_any (cl : Int) (A : Option Addr) (n c : Nat) (ls : List (List UInt8)) (w : World) (hr : RdL w A n c ls) :
    Calls Tryd.prog 19 #[.int .i64 cl, .slice A n c] w (JoinRet (joinV cl ls) (joinE cl ls) w) := by
  have hlb := hr.len
  have HR := Lib.hid hr
  have b1 := hr.cap
  have b2 := hr.most
  unfold maxLen at b2
  clear hr
  by_cases hok : isCls cl = true ∧ 1 ≤ n ∧ n ≤ 255
  · obtain ⟨hcl, hn1, hn2⟩ := hok
    obtain ⟨C, rfl⟩ : ∃ C : Nat, cl = (C : Int) := ⟨cl.toNat, by have := isCls_cases hcl; omega⟩
    have hC2 : C ≤ 1024 := by have := isCls_cases hcl; omega
    obtain ⟨S, hS⟩ : ∃ S, sizN C n = S := ⟨_, rfl⟩
    have hS2 : S ≤ 2000 := by
      have h1 := (sizN_mul (c := C) hn1).2
      rw [hS] at h1
      have h2 : S ≤ n * S := Nat.le_mul_of_pos_left S (by omega)
      omega
    have HSv : Hid (sizV (C : Int) (n : Int) = .tuple #[.int .i64 (S : Int), .int .i64 0]) := Lib.hid (by rw [sizV_yes hcl (by omega) (by omega), Int.toNat_natCast, Int.toNat_natCast, hS])
    have Hcl := Lib.hid hcl
    have HJ2 : Hid ((∃ l, l ∈ ls ∧ l.length ≠ S) → joinE (C : Int) ls = 2 ∧ joinV (C : Int) ls = []) := Lib.hid (fun g => by
      have h1 := joinE_form (cl := (C : Int)) (ls := ls) ⟨hcl, by omega, by omega⟩ (by rw [Int.toNat_natCast, hlb, hS]; exact g)
      exact ⟨h1, joinV_no (by rw [h1]; decide)⟩)
    have HJ0 : Hid ((∀ l, l ∈ ls → l.length = S) → joinE (C : Int) ls = 0 ∧ joinV (C : Int) ls = ls.flatten) := Lib.hid (fun g => by
      have h1 := joinE_ok (cl := (C : Int)) (ls := ls) ⟨hcl, by omega, by omega⟩ (by rw [Int.toNat_natCast, hlb, hS]; exact g)
      exact ⟨h1, joinV_ok h1⟩)
    have Hlb := Lib.hid hlb
    generalize joinE (C : Int) ls = EE at *
    generalize joinV (C : Int) ls = VV at *
    obtain ⟨i0, hi0, hz0, hz1, hz2⟩ := info_parts u8info
    clear hcl hS hlb
    go_enter Tryd.func19, Tryd.ntmps19
    go_wp2_with (go_at_call 30; refine (rSiz_yes C n Hcl.out hn1 hn2 _).mono ?_; rw [HSv.out]; rintro e w' ⟨rfl, rfl⟩)
    go_loopw [8, 9] (fun v i wr => ∃ (q m : Nat) (A5 : Option Addr) (c5 : Nat), q ≤ n ∧ i = .int .i64 (q : Int) ∧ v = .slice A5 m c5 ∧ OwB 5 wr (.slice A5 m c5) (ls.take q).flatten ∧ Hid (∀ l, l ∈ ls.take q → l.length = S) ∧ Kept [] w wr ∧ Hid (∀ g, (Value.slice A5 m c5).ownBlock = some g → w.heap.size ≤ g)) (fun _ i _ => n - (intOf i).toNat)
    case atStart => exact ⟨0, 0, none, 0, by omega, rfl, rfl, by rw [List.take_zero]; exact OwB.nil _ _, Lib.hid (by simp), Kept.refl _ _, Lib.hid (by simp [Value.ownBlock])⟩
    case round =>
      obtain ⟨q, m, A5, c5, hq, rfl, rfl, ho, Hall, hK, Hb⟩ := hrel
      have hmq : m = q * S := by
        obtain ⟨_, _, _, e, hh, _⟩ := ho.form
        injection e with e1 e2 e3
        subst e2
        have := hh.len
        rw [flatten_len _ Hall.out, List.length_take, Hlb.out, Nat.min_eq_left hq] at this
        exact this.symm
      have hm2 : m ≤ 510000 := by rw [hmq]; exact Nat.mul_le_mul (by omega : q ≤ 255) hS2
      by_cases hlt : q < n
      · obtain ⟨b, off, Aj, nj, cj, tk, rfl, hbl, c0, g0, hrj0⟩ := HR.out.at_ hlt
        have c1 := (hK.cell (p := ⟨b, off + q, none⟩) hbl (by simp)).trans c0
        have r1c := hrj0.cap
        have r1m := hrj0.most
        unfold maxLen at r1m
        have htl := hrj0.len
        by_cases hS3 : nj = S
        · subst hS3
          have HS := Lib.hid (take_step ls q tk g0)
          have HRj := Lib.hid (hrj0.kept0 hK)
          have Hl : Hid ((ls.take q).flatten.length = m) := Lib.hid (by
            rw [flatten_len _ Hall.out, List.length_take, Hlb.out, Nat.min_eq_left hq, hmq])
          have Hall2 : Hid (∀ l, l ∈ ls.take (q + 1) → l.length = nj) := Lib.hid (fun l hl => by
            rw [HS.out, List.mem_append] at hl
            rcases hl with h | h
            · exact Hall.out l h
            · simp at h; subst h; exact htl)
          have HF : Hid ((ls.take q).flatten ++ tk = (ls.take (q + 1)).flatten) := Lib.hid (by rw [HS.out]; simp)
          generalize (ls.take q).flatten = Z at *
          have HO := Lib.hid ho
          have HK := Lib.hid hK
          clear ho hK g0 hrj0 htl c0 hmq
          go_wp2_with (at_builtin; refine wpList_append_bytes rfl (.tmp 33) (.tmp 37) 22 rfl 5 i0 _ 1 Tryd.underlying22 hi0 hz0 hz1 hz2 rfl (.slice A5 m c5) Z rfl HO.out Aj nj cj tk rfl HRj.out (by rw [Hl.out]; simp only [maxLen]; omega) (by rw [Hl.out]; omega) ?_)
          intro v6 w6 ho6 hk6 hm6
          obtain ⟨hK6, hb6⟩ := app_new HK.out Hb.out hk6 hm6
          obtain ⟨A6, n6, c6, rfl, _, _⟩ := ho6.form
          rw [HF.out] at ho6
          have Hb6 := Lib.hid hb6
          clear hb6 hk6 hm6 HS HRj Hl Hall HF HO HK Hb c1
          go_wp2
          go_roundw
          case rel => exact ⟨q + 1, n6, A6, c6, by omega, by go_num, rfl, ho6, Hall2, hK6, Hb6⟩
          case measure => simp [intOf]; omega
        · have H2 := Lib.hid (HJ2.out ⟨tk, List.mem_of_getElem? g0, by omega⟩)
          have hne : ¬ (nj : Int) = (S : Int) := by omega
          have HK := Lib.hid hK
          clear ho hK g0 hrj0 htl c0 hmq hS3 Hb
          go_wp2
          go_ret2
          exact ⟨.slice none 0 0, by rw [H2.out.1] <;> rfl, by rw [H2.out.2]; exact OwB.nil _ _, HK.out, by simp [Value.ownBlock]⟩
      · obtain rfl : n = q := by omega
        rw [List.take_of_length_le (by have := Hlb.out; omega)] at ho
        have Ha : Hid (∀ l, l ∈ ls → l.length = S) := Lib.hid (by have h := Hall.out; rw [List.take_of_length_le (by have := Hlb.out; omega)] at h; exact h)
        have H0 := Lib.hid (HJ0.out Ha.out)
        clear hmq
        go_wp2
        go_ret2
        exact ⟨_, by rw [H0.out.1] <;> rfl, by rw [H0.out.2]; exact ho, hK, Hb.out⟩
  · have h1 := joinE_arg (cl := cl) (ls := ls) (by rw [hlb]; exact hok)
    have HE := Lib.hid h1
    have HV := Lib.hid (joinV_no (cl := cl) (ls := ls) (by rw [h1]; decide))
    have Hok := Lib.hid hok
    have HSv : Hid (sizV cl (n : Int) = .tuple #[.int .i64 0, .int .i64 14]) := Lib.hid (sizV_no (by rintro ⟨a1, a2, a3⟩; exact hok ⟨a1, by omega, by omega⟩))
    rw [HE.out, HV.out]
    have HC : Hid (Calls Tryd.prog 30 #[.int .i64 cl, .int .i64 (n : Int)] w fun e w' => e = .returned (.tuple #[.int .i64 0, .int .i64 14]) ∧ w = w') := Lib.hid (by
      rw [← HSv.out]
      cases h : isCls cl with
      | false => exact rSiz_no cl n h w
      | true => exact rSiz_few cl n h (by rcases Nat.lt_or_ge 0 n with a | a <;> rcases Nat.lt_or_ge 255 n with b | b <;> first | omega | exact absurd ⟨h, a, b⟩ hok) w)
    clear h1 hok
    go_enter Tryd.func19, Tryd.ntmps19
    go_wp2_with (go_at_call 30; refine HC.out.mono ?_; rintro e w' ⟨rfl, rfl⟩)
    go_ret2
    exact ⟨.slice none 0 0, rfl, OwB.nil _ _, Kept.refl _ _, by simp [Value.ownBlock]⟩
end Go.Proofs.YtmjeojbdieaakaaDoor
