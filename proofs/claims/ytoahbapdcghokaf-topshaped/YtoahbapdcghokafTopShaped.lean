/- The law TopShaped returns true for every input, from what is asked of fill.Rates, bucket.Send, pool.Check and pool.Run. -/
import Derived.Test.YtoahbapdcghokafTopOne
import Derived.Test.YtoahbapdcghokafPlains
import Derived.Deep.DeepCutAuto
namespace Go.Proofs.Ytoahbapdcghokaf
namespace Ev
open Go.RowKit Fr Ns Ld Fl
set_option linter.unusedSimpArgs false
set_option linter.unusedVariables false

/-- what went through the bucket is right for the pool, and nothing of it is lost -/
theorem ts_plain {s r h room cap : Int} {l : List Int} (he : sendE s r h l = 0) (hp : poolE room cap 0 = 0) (h1 : r ≤ cap) (h2 : s ≤ room + cap) :
    prunE room cap 0 (sentL s r h l) = 0 ∧ (poSt room cap 0 (sentL s r h l)).2.1 = 0 ∧ (poSt room cap 0 (sentL s r h l)).1 + (poSt room cap 0 (sentL s r h l)).2.2 = tot (sentL s r h l) ∧ (sentL s r h l).length ≤ 60 ∧ (∀ x ∈ sentL s r h l, 0 ≤ x ∧ x ≤ 10000) ∧ 0 ≤ (poSt room cap 0 (sentL s r h l)).1 ∧ 0 ≤ (poSt room cap 0 (sentL s r h l)).2.2 := by
  obtain ⟨e1, e2⟩ := sendE_0 he
  obtain ⟨h60, hl⟩ := ticksE_0.1 e2
  have hl0 : ∀ x ∈ l, 0 ≤ x := fun x hx => (hl x hx).1
  have hlen := sentL_length e1 hl0
  have hb := bktE_0.1 e1
  obtain ⟨c1, _, _, _⟩ := sentL_bounds e1 hl0
  have hm : ∀ x ∈ sentL s r h l, 0 ≤ x ∧ x ≤ 10000 := fun x hx => by
    obtain ⟨j, hj, rfl⟩ := List.mem_iff_getElem.1 hx
    have := c1 j (by omega)
    simp only [List.getD, List.getElem?_eq_getElem hj, Option.getD_some] at this
    omega
  have ht : ticksE (sentL s r h l) = 0 := ticksE_0.2 ⟨by omega, hm⟩
  have hsh := (shaped e1 hl0 hp h1 h2 l.length (Nat.le_refl _)).1
  rw [show (sentL s r h l).take l.length = sentL s r h l from List.take_of_length_le (by omega)] at hsh
  obtain ⟨i1, i2, i3, i4, i5, i6⟩ := po_keeps hp (fun x hx => (hm x hx).1) (sentL s r h l).length (Nat.le_refl _)
  rw [take_all (Nat.le_refl _)] at i1 i2 i3 i4 i5 i6
  exact ⟨by rw [prunE, if_pos hp]; exact ht, hsh, by omega, by omega, hm, i1, i3⟩
theorem ts_tot {l : List Int} (h : ∀ x ∈ l, 0 ≤ x ∧ x ≤ 10000) (h60 : l.length ≤ 60) (k : Nat) : 0 ≤ tot (l.take k) ∧ tot (l.take k) ≤ 600000 := by
  have : ∀ m : List Int, (∀ x ∈ m, 0 ≤ x ∧ x ≤ 10000) → 0 ≤ tot m ∧ tot m ≤ 10000 * m.length := fun m hm => by
    induction m with
    | nil => simp [tot]
    | cons a q ih =>
      have h1 := hm a (by simp)
      have h2 := ih (fun x hx => hm x (by simp [hx]))
      simp only [tot, List.length_cons]; omega
  have h1 := this (l.take k) (fun x hx => h x (List.mem_of_mem_take hx))
  have h2 : (l.take k).length ≤ 60 := by rw [List.length_take]; omega
  omega

set_option maxRecDepth 100000 in
set_option maxHeartbeats 8000000 in
theorem topShaped_walk (hRa : RatesSaid) (hS : BSendSaid) (hC : PCheckSaid) (hR : PRunSaid) (s r h room cp wt : Int) (l : List Int) (v : Value) (w : World) (hv : IntsAt (fun b => b < w.heap.size) w v l) :
    Calls Try.prog 6 #[.agg #[.int .i64 s, .int .i64 r, .int .i64 h], .agg #[.int .i64 room, .int .i64 cp, .int .i64 wt], v] w fun e w' => e = .returned (.bool true) ∧ Below w.heap.size w w' := by
  have HKp : Hid (∀ u : World, Below (w.heap.size + 2) ((w.alloc (.cells #[.int .i64 s, .int .i64 r, .int .i64 h] 23)).alloc (.cells #[.int .i64 room, .int .i64 cp, .int .i64 wt] 31)) u → Below w.heap.size w u ∧ RowAt u w.heap.size 23 [.int .i64 s, .int .i64 r, .int .i64 h] ∧ RowAt u (w.heap.size + 1) 31 [.int .i64 room, .int .i64 cp, .int .i64 wt] ∧ w.heap.size + 2 ≤ u.heap.size) := fun u hu => by
    have hs := hu.size
    simp at hs
    exact ⟨(((Below.refl _ _).alloc (Nat.le_refl _) _).alloc (by simp) _).trans (hu.mono (by omega)), ((row_made w _ _ _ _ rfl rfl).alloc _).later hu (by omega), (row_made _ _ _ _ _ (by simp) rfl).later hu (by omega), by omega⟩
  have HOn : Hid (∀ u : World, Calls Try.prog 12 #[] u fun e w' => e = .returned (.bool true) ∧ Below u.heap.size u w') := fun u => one_any hRa u
  have HSn : Hid (∀ u : World, Below w.heap.size w u → Calls Try.prog 7 #[.agg #[.int .i64 s, .int .i64 r, .int .i64 h], v] u fun e w' => ∃ y, e = .returned (.tuple #[y, errV (sendE s r h l)]) ∧ IntsAt (fun b => u.heap.size ≤ b) w' y (okL (sendE s r h l) (sentL s r h l)) ∧ Below u.heap.size u w') := fun u hu => hS _ s r h l v u (hv.later hu)
  have HCh : Hid (∀ u : World, Calls Try.prog 11 #[.agg #[.int .i64 room, .int .i64 cp, .int .i64 wt]] u fun e w' => e = .returned (errV (poolE room cp wt)) ∧ Below u.heap.size u w') := fun u => hC room cp wt u
  have HRu : Hid (∀ (x : Value) (u : World), IntsAt (fun _ => True) u x (sentL s r h l) → Calls Try.prog 8 #[.agg #[.int .i64 room, .int .i64 cp, .int .i64 0], x] u fun e w' => e = .returned (.tuple #[.agg #[.int .i64 (okN (prunE room cp 0 (sentL s r h l)) (poSt room cp 0 (sentL s r h l)).1), .int .i64 (okN (prunE room cp 0 (sentL s r h l)) (poSt room cp 0 (sentL s r h l)).2.1), .int .i64 (okN (prunE room cp 0 (sentL s r h l)) (poSt room cp 0 (sentL s r h l)).2.2)], errV (prunE room cp 0 (sentL s r h l))]) ∧ Below u.heap.size u w') := fun x u hx => hR _ room cp 0 (sentL s r h l) x u hx
  have HPl := (show Hid (sendE s r h l = 0 → poolE room cp 0 = 0 → r ≤ cp → s ≤ room + cp → _) from fun a b c d => ts_plain a b c d)
  have HPb : Hid (poolE room cp wt = 0 → 0 ≤ room ∧ room ≤ 10000 ∧ 1 ≤ cp ∧ cp ≤ 1000) := fun h0 => by have := poolE_0.1 h0; omega
  obtain ⟨a, cap, rfl, _⟩ := hv
  generalize sentL s r h l = SL at *
  generalize sendE s r h l = se at *
  obtain ⟨pe, hpe⟩ : ∃ e, Hid (poolE room cp wt = e) := ⟨_, rfl⟩
  rw [hpe.out] at HCh HPb
  obtain ⟨W0, HW0⟩ : ∃ W0, Hid ((w.alloc (.cells #[.int .i64 s, .int .i64 r, .int .i64 h] 23)).alloc (.cells #[.int .i64 room, .int .i64 cp, .int .i64 wt] 31) = W0) := ⟨_, rfl⟩
  rw [HW0.out] at HKp
  have K0 : Hid (Below (w.heap.size + 2) W0 W0) := Below.refl _ _
  obtain ⟨B0, R0, Q0, S0⟩ := HKp.out _ K0.out
  clear hRa hS hC hR
  go_enter Try.func6, Try.ntmps6
  go_upto_region 1 with fail
  rw [HW0.out]
  go_wp2_with fail
  refine (HOn.out _).mono ?_
  rintro e w1 ⟨rfl, hw1⟩
  have K1 : Hid (Below (w.heap.size + 2) W0 w1) := Bel.call K0.out S0 hw1
  clear hw1
  obtain ⟨B1, R1, Q1, S1⟩ := HKp.out _ K1.out
  obtain ⟨d0, d1, d2, z0, z1, z2, hgz⟩ := R1.three
  go_wp2_with fail
  refine (HSn.out _ B1).mono ?_
  rintro e w2 ⟨y, rfl, hy, hw2⟩
  have K2 : Hid (Below (w.heap.size + 2) W0 w2) := Bel.call K1.out S0 hw2
  clear hw2 d0 d1 d2 z0 z1 z2 hgz B1 R1 Q1 S1
  obtain ⟨B2, R2, Q2, S2⟩ := HKp.out _ K2.out
  by_cases hse : se = 0
  · have hok : okL se SL = SL := by rw [hse]; exact if_pos rfl
    rw [hok] at hy
    subst hse
    rw [errV_0]
    have Y2 : Hid (IntsAt (fun _ => True) w2 y SL) := hy.keep (fun _ _ _ => rfl) (fun _ _ _ => trivial)
    obtain ⟨ay, cy, rfl, ⟨hn1, hn2⟩, _⟩ := hy
    obtain ⟨d0, d1, d2, z0, z1, z2, hgz⟩ := R2.three
    obtain ⟨e0, e1, e2, y0, y1, y2, hgy⟩ := Q2.three
    go_wp2_with fail
    refine (HCh.out _).mono ?_
    rintro e w3 ⟨rfl, hw3⟩
    have K3 : Hid (Below (w.heap.size + 2) W0 w3) := Bel.call K2.out S0 hw3
    have Y3 : Hid (IntsAt (fun _ => True) w3 (.slice ay SL.length cy) SL) := Y2.out.later hw3
    clear hw3 d0 d1 d2 z0 z1 z2 hgz e0 e1 e2 y0 y1 y2 hgy B2 R2 Q2 S2 K2 Y2
    obtain ⟨B3, R3, Q3, S3⟩ := HKp.out _ K3.out
    obtain ⟨d0, d1, d2, z0, z1, z2, hgz⟩ := R3.three
    obtain ⟨e0, e1, e2, y0, y1, y2, hgy⟩ := Q3.three
    by_cases hpe0 : pe = 0
    · obtain ⟨p1, p2, p3, p4⟩ := HPb.out hpe0
      rw [hpe0, errV_0]
      by_cases hwt : wt = 0
      · have hP : Hid (poolE room cp 0 = 0) := by
          have := hpe.out
          rw [hwt, hpe0] at this
          exact this
        subst hwt
        have hwp : IntKind.i64.wrap (room + cp) = room + cp := by rw [IntKind.wrap_i64]; omega
        by_cases c1 : cp < r
        · clear HPb p1 p2 p3 p4 HPl
          go_wp2
          go_ret
          exact ⟨Ns.ret_bool rfl, B3⟩
        · by_cases c2 : room + cp < s
          · clear HPb p1 p2 p3 p4 HPl
            go_wp2
            go_ret
            exact ⟨Ns.ret_bool rfl, B3⟩
          · obtain ⟨f1, f2, f3, f4, f5, f6, f7⟩ := HPl.out (by first | rfl | trivial) hP.out (by omega) (by omega)
            have HR' : Hid (∀ (x : Value) (u : World), IntsAt (fun _ => True) u x SL → Calls Try.prog 8 #[.agg #[.int .i64 room, .int .i64 cp, .int .i64 0], x] u fun e w' => e = .returned (.tuple #[.agg #[.int .i64 (poSt room cp 0 SL).1, .int .i64 0, .int .i64 (poSt room cp 0 SL).2.2], .nilIface]) ∧ Below u.heap.size u w') := fun x u hx => by
              have := HRu.out x u hx
              rw [f1, f2, errV_0] at this
              exact this
            have HTs : Hid (∀ k, 0 ≤ tot (SL.take k) ∧ tot (SL.take k) ≤ 600000) := fun k => ts_tot f5 f4 k
            have HSt : Hid (∀ k, k < SL.length → tot (SL.take (k + 1)) = tot (SL.take k) + SL.getD k 0) := fun k hk => tot_step SL k hk
            have HE : Hid (tot (SL.take SL.length) = tot SL) := by show _ = _; rw [take_all (Nat.le_refl _)]
            have hT := HTs.out SL.length
            rw [HE.out] at hT
            have hX : Hid (∀ i, i < SL.length → ∃ b off, ay = some ⟨b, off, none⟩ ∧ ∀ u, Below w3.heap.size w3 u → u.cell? ⟨b, off + i, none⟩ = some (.int .i64 (SL.getD i 0))) := ints_cells Y3.out
            generalize (poSt room cp 0 SL).1 = G1 at *
            generalize (poSt room cp 0 SL).2.2 = G3 at *
            have hwq : IntKind.i64.wrap (G1 + G3) = tot SL := by rw [IntKind.wrap_i64, f3]; omega
            clear HPb p1 p2 p3 p4 HPl HRu f1 f2 f3 f4 f5 f6 f7 hT
            go_wp2_with fail
            refine (HR'.out _ _ Y3.out).mono ?_
            rintro e w4 ⟨rfl, hw4⟩
            have K4 : Hid (Below (w.heap.size + 2) W0 w4) := Bel.call K3.out S0 hw4
            have X4 : Hid (∀ i, i < SL.length → ∃ b off, ay = some ⟨b, off, none⟩ ∧ (w4.alloc (.cells #[.int .i64 G1, .int .i64 0, .int .i64 G3] 33)).cell? ⟨b, off + i, none⟩ = some (.int .i64 (SL.getD i 0))) := fun i hi => by
              obtain ⟨b, off, e, hc⟩ := hX.out i hi
              exact ⟨b, off, e, hc _ (hw4.alloc hw4.size _)⟩
            have S4 : w.heap.size + 2 ≤ w4.heap.size := by have := K4.out.size; omega
            have K5 : Hid (Below (w.heap.size + 2) W0 (w4.alloc (.cells #[.int .i64 G1, .int .i64 0, .int .i64 G3] 33))) := K4.out.alloc S4 _
            have R5 : Hid (RowAt (w4.alloc (.cells #[.int .i64 G1, .int .i64 0, .int .i64 G3] 33)) w4.heap.size 33 [.int .i64 G1, .int .i64 0, .int .i64 G3]) := row_made w4 _ _ _ _ rfl rfl
            have B5 : Hid (Below w.heap.size w (w4.alloc (.cells #[.int .i64 G1, .int .i64 0, .int .i64 G3] 33))) := (HKp.out _ K5.out).1
            clear hw4 d0 d1 d2 z0 z1 z2 hgz e0 e1 e2 y0 y1 y2 hgy B3 R3 Q3 S3 K3 Y3 hX HR'
            go_wp2
            generalize (w4.alloc (.cells #[.int .i64 G1, .int .i64 0, .int .i64 G3] 33)) = w5 at *
            obtain ⟨d0, d1, d2, z0, z1, z2, hgz⟩ := R5.out.three
            go_loopw [11, 12] (fun s11 s12 wr => ∃ k : Nat, k ≤ SL.length ∧ s12 = .int .i64 k ∧ s11 = .int .i64 (tot (SL.take k)) ∧ Hid (wr = w5)) (fun _ s12 _ => SL.length - (intOf s12).toNat)
            case atStart => exact ⟨0, by omega, rfl, rfl, rfl⟩
            case round =>
              obtain ⟨k, hk, rfl, rfl, hwr⟩ := hrel
              obtain rfl := hwr.out
              by_cases hlt : k < SL.length
              · obtain ⟨b, off, rfl, c0⟩ := X4.out k hlt
                obtain ⟨t1, t2⟩ := HTs.out (k + 1)
                have E1 : Hid (tot (SL.take (k + 1)) = tot (SL.take k) + SL.getD k 0) := HSt.out k hlt
                rw [E1.out] at t1 t2
                generalize SL.getD k 0 = x at *
                generalize tot (SL.take k) = A at *
                have hwa : IntKind.i64.wrap (A + x) = A + x := by rw [IntKind.wrap_i64]; omega
                clear t1 t2
                go_wp2
                go_roundw
                case rel => exact ⟨k + 1, by omega, by go_num, by rw [E1.out], by first | exact rfl | exact trivial⟩
                case measure => simp [intOf]; omega
              · obtain rfl : k = SL.length := by omega
                rw [HE.out]
                generalize tot SL = TS at *
                have q : (TS == TS) = true := by simp
                go_wp2
                go_ret
                exact ⟨Ns.ret_bool rfl, B5.out⟩
      · have q : (wt != 0) = true := by simp [hwt]
        clear HPb p1 p2 p3 p4 HPl
        go_wp2
        go_ret
        exact ⟨Ns.ret_bool rfl, B3⟩
    · rw [errV_ne hpe0]
      clear HPb HPl
      go_wp2
      go_ret
      exact ⟨Ns.ret_bool rfl, B3⟩
  · rw [errV_ne hse]
    obtain ⟨ay, cy, rfl, _⟩ := hy
    clear HPb HPl
    go_wp2
    go_ret
    exact ⟨Ns.ret_bool rfl, B2⟩
end Ev
end Go.Proofs.Ytoahbapdcghokaf
