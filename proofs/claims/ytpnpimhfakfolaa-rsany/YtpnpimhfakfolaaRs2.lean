/-
  Contracts of layer 9 (rs): New. No statement of the seed is proved here.
-/
import Derived.Test.YtpnpimhfakfolaaRs1
import Derived.Test.YtpnpimhfakfolaaPa
import Derived.Test.YtpnpimhfakfolaaOwR
namespace Go.Proofs.Ytpnpimhfakfolaa
open Go.RowKit
set_option linter.unusedVariables false

theorem new9_nil (y z : Int) (w : World) : Calls Try.prog 25 #[.pointer none, .int .i64 y, .int .i64 z] w fun e w' => e = .returned (.tuple #[.pointer none, .int .i64 15]) ∧ w' = w := by
  go_enter Try.func25, Try.ntmps25
  go_wp2
  go_ret2
  exact ⟨rfl, rfl⟩
theorem new9_arg (p : Nat) (y z : Int) (w : World) (h : y < 1 ∨ (1 ≤ y ∧ z < y) ∨ (1 ≤ y ∧ y ≤ z ∧ 255 < z)) : Calls Try.prog 25 #[.pointer (some ⟨p, 0, none⟩), .int .i64 y, .int .i64 z] w fun e w' => e = .returned (.tuple #[.pointer none, .int .i64 14]) ∧ w' = w := by
  rcases h with h | ⟨h1, h2⟩ | ⟨h1, h2, h3⟩
  all_goals
    go_enter Try.func25, Try.ntmps25
    go_wp2
    go_ret2
    exact ⟨rfl, rfl⟩
def NewRet (n k p : Nat) (w : World) (e : Ending) (w' : World) : Prop := ∃ q A c, e = .returned (.tuple #[.pointer (some ⟨q, 0, none⟩), .int .i64 0]) ∧ CodeAt w' q n k p A c ∧ Kept [] w w'
theorem builtCode (A : Option Addr) (n c k p : Nat) : Try.prog.built 64 [(0, .slice A n c), (1, .int .i64 (k : Int)), (2, .pointer (some ⟨p, 0, none⟩))] = some #[.slice A n c, .int .i64 (k : Int), .pointer (some ⟨p, 0, none⟩)] := by kernel_rfl
theorem ofm_rsr_unit (k : Nat) : ofm k k un = ofm k k (rsr k) := ofm_congr fun i hi j _ => (rsr_lt hi j).symm
theorem ofm_rsr_app {k n : Nat} (h : k ≤ n) : ofm k k un ++ ofm (n - k) k (cau k) = ofm n k (rsr k) := by
  refine rm_ext (by rw [List.length_append, ofm_length, ofm_length]; omega) (fun i hi => ?_)
  by_cases e : i < k
  · rw [List.getElem?_append_left (by rw [ofm_length]; exact e), ofm_get e]
    congr 1
    exact rm_congr fun j _ => by rw [rsr_lt e]
  · rw [List.getElem?_append_right (by rw [ofm_length]; omega), ofm_length, ofm_get (by omega)]
    congr 1
    exact rm_congr fun j _ => by rw [rsr_ge (by omega)]
theorem CodeAt.make {w : World} {q n k p c : Nat} {A : Option Addr} {t : TypeId} (h1 : 1 ≤ k) (h2 : k ≤ n) (h3 : n ≤ 255) (hB : Blk w q t [.slice A n c, .int .i64 (k : Int), .pointer (some ⟨p, 0, none⟩)]) (hT : TabAt w p) (hm : RdL w A n c (ofm n k (rsr k))) : CodeAt w q n k p A c :=
  ⟨h1, h2, h3, by rw [hB.cell]; rfl, by rw [hB.cell]; rfl, by rw [hB.cell]; rfl, hT, hm⟩

theorem Blk.ownV {e : TypeId} {w : World} {g n : Nat} {vs : List Value} (h : Blk w g e vs) (hl : vs.length = n) (hn : n ≤ maxLen) : OwV e w (.slice (some ⟨g, 0, none⟩) n n) vs := by
  unfold OwV
  refine ⟨by rw [Nat.mul_one], .inr ⟨g, n, vs.toArray, by rw [hl], Nat.zero_le _, h, by omega, hn, by simp [hl], ?_⟩⟩
  simp
theorem Blk.rdv {e : TypeId} {w : World} {g n : Nat} {vs : List Value} (h : Blk w g e vs) (hl : vs.length = n) (hn : n ≤ maxLen) : RdV w (some ⟨g, 0, none⟩) n n vs :=
  ⟨hl, Nat.le_refl _, hn, fun _ => ⟨g, 0, rfl, fun j hj => by rw [Nat.zero_add]; exact h.cellD j hj⟩⟩
/-- The rows of a matrix of one's own, as cells. -/
theorem txt_rows {w : World} {n k : Nat} {V : Nat → Value} {m : Nat → Nat → GB} (h : ∀ i, i < n → TxtV w (V i) (rm k fun j => (m i j).v)) : TxtVs w (rm n V) (ofm n k m) := by
  refine ⟨by rw [rm_length, ofm_length], fun j v l h1 h2 => ?_⟩
  have hj : j < n := by have := (List.getElem?_eq_some_iff.1 h1).1; rw [rm_length] at this; exact this
  rw [rm_get hj] at h1
  rw [ofm_get hj] at h2
  obtain rfl := Option.some.inj h1
  obtain rfl := Option.some.inj h2
  exact h j hj

set_option maxRecDepth 100000 in
set_option maxHeartbeats 2000000 in
theorem new9_any (p n k : Nat) (y z : Int) (w : World) (hT : TabAt w p) (hy : y = (k : Int)) (hz : z = (n : Int)) (h1 : 1 ≤ k) (h2 : k ≤ n) (h3 : n ≤ 255) :
    Calls Try.prog 25 #[.pointer (some ⟨p, 0, none⟩), .int .i64 y, .int .i64 z] w (NewRet n k p w) := by
  subst hy hz
  have HT := Lib.hid hT
  have Hpw := Lib.hid hT.lt
  clear hT
  by_cases hnk : n = k
  · subst hnk
    go_enter Try.func25, Try.ntmps25
    go_wp2_with fail
    refine (unit8_any n _ _ rfl h1 h3).mono ?_
    rintro e w1 ⟨R, G, off, rfl, hM1, hwR, hwG, hk1⟩
    have HM1 := Lib.hid (hM1.rdl (by simp only [maxLen]; omega) (by simp only [maxLen]; omega))
    have HT1 := Lib.hid (HT.out.kept0 hk1)
    have HK1 := Lib.hid hk1
    clear hM1 hk1
    go_wp2
    go_ret2
    have hk2 := (Kept.refl [] w1).alloc (.cells #[.slice (some ⟨R, 0, none⟩) n n, .int .i64 (n : Int), .pointer (some ⟨p, 0, none⟩)] 64)
    refine ⟨w1.heap.size, some ⟨R, 0, none⟩, n, rfl, CodeAt.make h1 h2 h3 (Blk.new w1 64 [.slice (some ⟨R, 0, none⟩) n n, .int .i64 (n : Int), .pointer (some ⟨p, 0, none⟩)]) (HT1.out.kept0 hk2) ?_, HK1.out.andThen hk2⟩
    have := HM1.out.kept0 hk2
    rw [ofm_rsr_unit] at this
    exact this
  · have hkn : k < n := by omega
    obtain ⟨i1, hj0, hy0, hy1, hy2⟩ := info_parts tBinfo8
    clear hnk
    go_enter Try.func25, Try.ntmps25
    go_wp2_with fail
    refine (unit8_any k _ _ rfl h1 (by omega)).mono ?_
    rintro e w1 ⟨R, G, off, rfl, hM1, hwR, hwG, hk1⟩
    have hB := Blk.new w1 64 [.slice (some ⟨R, 0, none⟩) k k, .int .i64 (k : Int), .pointer (some ⟨p, 0, none⟩)]
    have hk2 := (Kept.refl [] w1).alloc (.cells #[.slice (some ⟨R, 0, none⟩) k k, .int .i64 (k : Int), .pointer (some ⟨p, 0, none⟩)] 64)
    obtain ⟨q, hq⟩ : ∃ q, q = w1.heap.size := ⟨_, rfl⟩
    rw [← hq] at hB
    have HB := Lib.hid hB
    have HK2 := Lib.hid hk2
    have HK1 := Lib.hid hk1
    have HM1 := Lib.hid hM1
    have Hq := Lib.hid hq
    clear hB hk2 hM1 hk1 hq
    go_wp2_with (with_reducible change wpList _ _ _ (⟨_, Op.box _ _, _, _, _, _⟩ :: _) _ _; refine Great.wpList_boxTo rfl 64 _ rfl _ rfl q Hq.out.symm #[.slice (some ⟨R, 0, none⟩) k k, .int .i64 (k : Int), .pointer (some ⟨p, 0, none⟩)] rfl ?_; generalize w1.alloc (.cells [.slice (some ⟨R, 0, none⟩) k k, .int .i64 (k : Int), .pointer (some ⟨p, 0, none⟩)].toArray 64) = w2 at *)
    refine (cauchy8_any p (n - k) k _ _ _ (HT.out.kept0 (HK1.out.andThen HK2.out)) (by omega) rfl (by omega) (by omega) h1 (by omega) (by omega)).mono ?_
    rintro e w3 ⟨R2, G2, off2, rfl, hM3, hwR3, hwG3, hk3⟩
    have hM13 := (HM1.out.kept0 HK2.out).kept0 hk3
    have hB3 := HB.out.kept0 hk3
    have c1 : w3.cell? ⟨q, 0, none⟩ = some (.slice (some ⟨R, 0, none⟩) k k) := hB3.cell 0
    have lq := HB.out.lt
    have lR := HM1.out.ltR
    have lG := HM1.out.ltG
    have lq2 := Hq.out
    have lpw := Hpw.out
    have lk1 := HK1.out.size
    have lk3 := hk3.size
    have q1 : q ≠ R := by omega
    have q2 : q ≠ G := by omega
    have q4 : G2 ≠ q := by omega
    have q5 : G2 ≠ R := by omega
    have q6 : G ≠ R := fun e => HM1.out.ne e.symm
    have q7 : p ≠ q := by omega
    have q8 : p ≠ R := by omega
    have q9 : q < w3.heap.size := by omega
    have qw : w.heap.size ≤ q := by omega
    have HO := Lib.hid (hM13.rows.ownV (rm_length _ _) (by simp only [maxLen]; omega))
    have HV := Lib.hid (hM3.rows.rdv (rm_length _ _) (by simp only [maxLen]; omega))
    have HB3 := Lib.hid hB3
    have HM13 := Lib.hid hM13
    have HM3 := Lib.hid hM3
    have HT3 := Lib.hid ((HT.out.kept0 (HK1.out.andThen HK2.out)).kept0 hk3)
    have HK3 := Lib.hid ((HK1.out.andThen HK2.out).andThen hk3)
    clear hM13 hB3 hM3 hk3 lq lR lG lq2 lpw lk1 lk3 HB HK2 HM1 HT HK1 Hpw
    go_wp2_with (at_builtin; refine wpList_append_two rfl (.tmp 50) (.tmp 51) 62 24 rfl 38 i1 _ 24 Try.underlying62 Try.underlying24 hj0 hy0 hy1 hy2 rfl (.slice (some ⟨R, 0, none⟩) k k) (rm k fun i => .slice (some ⟨G, off i, none⟩) k k) rfl HO.out (some ⟨R2, 0, none⟩) (n - k) (n - k) (rm (n - k) fun i => .slice (some ⟨G2, off2 i, none⟩) k k) rfl HV.out (fun u hu => by unfold rm at hu; simp only [List.mem_map] at hu; obtain ⟨j, _, rfl⟩ := hu; rfl) (by rw [rm_length]; simp only [maxLen]; omega) (by rw [rm_length]; omega) ?_)
    intro v4 w4 ho4 hk4 hm4
    have hk4' : Kept [R] w3 w4 := by simpa [Value.ownBlock] using hk4
    obtain ⟨A4, n4, c4, rfl, hr4, _⟩ := ho4.form
    obtain rfl : n4 = n := by have := hr4.len; rw [List.length_append, rm_length, rm_length] at this; omega
    obtain ⟨b, rfl, hb4⟩ := ho4.own (by omega)
    have hbq : b ≠ q := by
      rcases hm4 b rfl with h | h
      · simp [Value.ownBlock] at h; omega
      · omega
    have hB4 := HB3.out.kept hk4' (by simpa using q1)
    have c2 : w4.cell? ⟨q, 0, none⟩ = some (.slice (some ⟨R, 0, none⟩) k k) := hB4.cell 0
    have f2 := hB4.frz 0
    obtain ⟨w5, hw5⟩ : ∃ w5, w5 = w4.setCell ⟨q, 0, none⟩ (.slice (some ⟨b, 0, none⟩) n4 c4) := ⟨_, rfl⟩
    have hk5 : Kept [q] w4 w5 := by rw [hw5]; exact (Kept.refl [q] w4).setCell (.inl (by simp)) _
    have hB5 : Blk w5 q 64 [.slice (some ⟨b, 0, none⟩) n4 c4, .int .i64 (k : Int), .pointer (some ⟨p, 0, none⟩)] := by rw [hw5]; exact hB4.set 0 _
    have hT5 := (HT3.out.kept hk4' (by simpa using q8)).kept hk5 (by simpa using q7)
    have hV5 := hr4.kept hk5 (by intro a ha; injection ha with ha; subst ha; simpa using hbq)
    have hX1 := txt_rows (V := fun i => .slice (some ⟨G, off i, none⟩) k k) (w := w5) (n := k) (k := k) (m := un) fun i hi => ⟨_, _, _, rfl, ((HM13.out.rdb hi (by simp only [maxLen]; omega)).kept hk4' (by intro a ha; injection ha with ha; subst ha; simpa using q6)).kept hk5 (by intro a ha; injection ha with ha; subst ha; simpa using q2.symm)⟩
    have hX2 := txt_rows (V := fun i => .slice (some ⟨G2, off2 i, none⟩) k k) (w := w5) (n := n4 - k) (k := k) (m := cau k) fun i hi => ⟨_, _, _, rfl, ((HM3.out.rdb hi (by simp only [maxLen]; omega)).kept hk4' (by intro a ha; injection ha with ha; subst ha; simpa using q5)).kept hk5 (by intro a ha; injection ha with ha; subst ha; simpa using q4)⟩
    have hX := hX1.append hX2
    rw [ofm_rsr_app h2] at hX
    have HC := Lib.hid (CodeAt.make h1 h2 h3 hB5 hT5 (RdL.of_vals hV5 hX))
    have HKf : Hid (Kept [] w w5) := Lib.hid ((HK3.out.trans hk4' (by simp; have := HM13.out.ltR; omega)).trans hk5 (by simp; omega))
    clear hk4 hk4' hm4 ho4 hr4 hB4 hk5 hB5 hT5 hV5 hX1 hX2 hX HO HV HB3 HM13 HM3 HT3 HK3
    go_wp2
    rw [← hw5]
    clear hw5 c1 c2 f2
    go_wp2
    go_ret2
    exact ⟨q, _, c4, rfl, HC.out, HKf.out⟩
end Go.Proofs.Ytpnpimhfakfolaa
