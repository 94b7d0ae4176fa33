/- Package pool's Run does what is asked of it. -/
import Derived.Test.YtoahbapdcghokafDoorPoA
import Derived.Test.YtoahbapdcghokafDoorPlains
import Derived.Deep.DeepCutAuto
import Derived.Deep.RegionHeld3
namespace Go.Proofs.YtoahbapdcghokafDoor
namespace Ev
open Go.RowKit Fr Ns Ld Fl
set_option linter.unusedSimpArgs false
set_option linter.unusedVariables false

/-- what went, was lost, and waits, of a pool that is right -/
theorem po_now {s r h : Int} {l : List Int} (hb : poolE s r h = 0) (ht : ticksE l = 0) (k : Nat) (hk : k ≤ l.length) :
    0 ≤ (poSt s r h (l.take k)).1 ∧ (poSt s r h (l.take k)).1 ≤ 1000000 ∧ 0 ≤ (poSt s r h (l.take k)).2.1 ∧ (poSt s r h (l.take k)).2.1 ≤ 1000000 ∧ poolE s r (poSt s r h (l.take k)).2.2 = 0 := by
  obtain ⟨h60, hl⟩ := ticksE_0.1 ht
  have hi := po_keeps hb (fun x hx => (hl x hx).1) k hk
  have h0 := poolE_0.1 hb
  have ht2 := tot_le_ticks (l := l.take k) (fun x hx => hl x (List.mem_of_mem_take hx))
  have hlen : (l.take k).length ≤ 60 := by rw [List.length_take]; omega
  exact ⟨hi.1, by omega, hi.2.1, by omega, poolE_0.2 (by omega)⟩
theorem cell_set3 {w : World} {g : Nat} {x y z a b c : Value} (h0 : w.cell? ⟨g, 0, none⟩ = some a) (h1 : w.cell? ⟨g, 1, none⟩ = some b) (h2 : w.cell? ⟨g, 2, none⟩ = some c) :
    (((w.setCell ⟨g, 0, none⟩ x).setCell ⟨g, 1, none⟩ y).setCell ⟨g, 2, none⟩ z).cell? ⟨g, 0, none⟩ = some x ∧ (((w.setCell ⟨g, 0, none⟩ x).setCell ⟨g, 1, none⟩ y).setCell ⟨g, 2, none⟩ z).cell? ⟨g, 1, none⟩ = some y ∧ (((w.setCell ⟨g, 0, none⟩ x).setCell ⟨g, 1, none⟩ y).setCell ⟨g, 2, none⟩ z).cell? ⟨g, 2, none⟩ = some z := by
  refine ⟨?_, ?_, ?_⟩ <;> go_simp

set_option maxRecDepth 100000 in
set_option maxHeartbeats 4000000 in
theorem prun_said : PRunSaid := by
  intro Q s r h l v w hv
  have HK : Hid (∀ u : World, Calls Tryd.prog 10 #[.agg #[.int .i64 s, .int .i64 r, .int .i64 h]] u fun e w' => e = .returned (errV (poolE s r h)) ∧ Below u.heap.size u w') := fun u => pcheck_said s r h u
  have HT : Hid (∀ u : World, Below w.heap.size w u → Calls Tryd.prog 21 #[v] u fun e w' => e = .returned (errV (ticksE l)) ∧ Below u.heap.size u w') := fun u hu => drawn (pticks_any l v u (hv.later hu))
  have HKp : Hid (∀ u : World, Below ((w.alloc (.cells #[.int .i64 s, .int .i64 r, .int .i64 h] 33)).alloc (.cells #[.int .i64 0, .int .i64 0, .int .i64 0] 38)).heap.size ((w.alloc (.cells #[.int .i64 s, .int .i64 r, .int .i64 h] 33)).alloc (.cells #[.int .i64 0, .int .i64 0, .int .i64 0] 38)) u → Below w.heap.size w u ∧ RowAt u w.heap.size 33 [.int .i64 s, .int .i64 r, .int .i64 h] ∧ RowAt u (w.heap.size + 1) 38 [.int .i64 0, .int .i64 0, .int .i64 0] ∧ w.heap.size + 2 ≤ u.heap.size) := fun u hu => by
    have hs := hu.size
    simp at hs
    exact ⟨(((Below.refl _ _).alloc (Nat.le_refl _) _).alloc (by simp) _).trans (hu.mono (by simp <;> omega)), ((row_made w _ _ _ _ rfl rfl).alloc _).later hu (by simp <;> omega), (row_made (w.alloc (.cells #[.int .i64 s, .int .i64 r, .int .i64 h] 33)) _ _ _ _ (by simp) rfl).later hu (by simp), by omega⟩
  have HC : Hid (∀ i, i < l.length → ∃ a c b off, v = .slice a l.length c ∧ a = some ⟨b, off, none⟩ ∧ ∀ u, Below w.heap.size w u → u.cell? ⟨b, off + i, none⟩ = some (.int .i64 (l.getD i 0))) := fun i hi => by
    obtain ⟨a, cap, rfl, h1, h2⟩ := id hv
    obtain ⟨b, off, e, hc⟩ := ints_cells hv i hi
    exact ⟨a, cap, b, off, rfl, e, hc⟩
  obtain ⟨a, cap, rfl, ⟨hm, hm2⟩, _⟩ := hv
  have S1 : w.heap.size ≤ w.heap.size + 1 := Nat.le_succ _
  by_cases hk : poolE s r h = 0
  · by_cases ht : ticksE l = 0
    · have hE : prunE s r h l = 0 := by rw [prunE, if_pos hk, ht]
      rw [hE]
      obtain ⟨h60, hl⟩ := ticksE_0.1 ht
      have HA : Hid (∀ k, k ≤ l.length → 0 ≤ (poSt s r h (l.take k)).1 ∧ (poSt s r h (l.take k)).1 ≤ 1000000 ∧ 0 ≤ (poSt s r h (l.take k)).2.1 ∧ (poSt s r h (l.take k)).2.1 ≤ 1000000 ∧ poolE s r (poSt s r h (l.take k)).2.2 = 0) := fun k hkk => po_now hk ht k hkk
      have HL : Hid (∀ k, k < l.length → 0 ≤ l.getD k 0 ∧ l.getD k 0 ≤ 10000) := fun k hk => hl _ (getD_mem l k hk 0)
      have HS : Hid (∀ k, k < l.length → poSt s r h (l.take (k + 1)) = stepP s r (poSt s r h (l.take k)) (l.getD k 0)) := fun k hk => poSt_step s r h l k hk
      have HE : Hid (poSt s r h (l.take l.length) = poSt s r h l) := by show _ = _; rw [take_all (Nat.le_refl _)]
      have H0 : Hid (poSt s r h (l.take 0) = (0, 0, h)) := rfl
      show Calls _ _ _ _ fun e w' => e = .returned (.tuple #[.agg #[.int .i64 (poSt s r h l).1, .int .i64 (poSt s r h l).2.1, .int .i64 (poSt s r h l).2.2], .nilIface]) ∧ _
      generalize poSt s r h l = SL at *
      obtain ⟨T, hT⟩ : ∃ T : Nat → Int × Int × Int, ∀ k, poSt s r h (l.take k) = T k := ⟨_, fun _ => rfl⟩
      simp only [hT] at HA HS HE H0
      have HFi : Hid (∀ (x m : Int) (u : World), poolE s r x = 0 → 0 ≤ m → m ≤ 10000 → Calls Tryd.prog 20 #[.agg #[.int .i64 s, .int .i64 r, .int .i64 x], .int .i64 m] u fun e w' => e = .returned (.tuple #[.agg #[.int .i64 s, .int .i64 r, .int .i64 (waitP s r (x + m))], .agg #[.int .i64 (wentP r (x + m)), .int .i64 (lostP s r (x + m)), .int .i64 (waitP s r (x + m))]]) ∧ Below u.heap.size u w') := fun x m u hx m0 m1 => pticked_any s r x m u hx m0 m1
      rw [hk, errV_0] at HK
      rw [ht, errV_0] at HT
      clear hl ht hT hE
      have h0 := poolE_0.1 hk
      clear hk
      go_enter Tryd.func14, Tryd.ntmps14
      go_wp2_with fail
      refine (HK.out _).mono ?_
      rintro e w1 ⟨rfl, hw1⟩
      obtain ⟨b1, R1, Z1, hsz⟩ := HKp.out _ hw1
      have B1 : Hid (Below w.heap.size w w1) := b1
      have HR1 : Hid (RowAt w1 w.heap.size 33 [.int .i64 s, .int .i64 r, .int .i64 h]) := R1
      have HZ1 : Hid (RowAt w1 (w.heap.size + 1) 38 [.int .i64 0, .int .i64 0, .int .i64 0]) := Z1
      clear b1 R1 Z1 hw1
      go_wp2_with fail
      refine (HT.out _ B1.out).mono ?_
      rintro e w2 ⟨rfl, hw2⟩
      have B2 : Hid (Below w.heap.size w w2) := Bel.call B1.out (Nat.le_refl _) hw2
      have HR2 : Hid (RowAt w2 w.heap.size 33 [.int .i64 s, .int .i64 r, .int .i64 h]) := HR1.out.later hw2 HR1.out.lt
      have HZ2 : Hid (RowAt w2 (w.heap.size + 1) 38 [.int .i64 0, .int .i64 0, .int .i64 0]) := HZ1.out.later hw2 HZ1.out.lt
      have hs2 : w.heap.size + 2 ≤ w2.heap.size := Nat.le_trans hsz hw2.size
      have B3 : Hid (Below w.heap.size w (w2.alloc (.cells #[.int .i64 0, .int .i64 0, .int .i64 h] 38))) := B2.out.alloc (by omega) _
      have R3 : Hid (RowAt (w2.alloc (.cells #[.int .i64 0, .int .i64 0, .int .i64 h] 38)) w.heap.size 33 [.int .i64 s, .int .i64 r, .int .i64 h]) := HR2.out.alloc _
      have Z3 : Hid (RowAt (w2.alloc (.cells #[.int .i64 0, .int .i64 0, .int .i64 h] 38)) (w.heap.size + 1) 38 [.int .i64 0, .int .i64 0, .int .i64 0]) := HZ2.out.alloc _
      have G3 : Hid (RowAt (w2.alloc (.cells #[.int .i64 0, .int .i64 0, .int .i64 h] 38)) w2.heap.size 38 [.int .i64 0, .int .i64 0, .int .i64 h]) := row_made _ _ _ _ _ rfl rfl
      obtain ⟨d0, d1, d2, _, _, _, _⟩ := HR2.out.three
      clear hw2 HR1 HR2 HZ1 HZ2 B1 B2
      go_wp2
      go_loopw [9, 10, 11, 29] (fun _ _ _ i wr => ∃ k : Nat, k ≤ l.length ∧ i = .int .i64 k ∧ Hid (RowAt wr w2.heap.size 38 [.int .i64 (T k).1, .int .i64 (T k).2.1, .int .i64 (T k).2.2]) ∧ Hid (RowAt wr w.heap.size 33 [.int .i64 s, .int .i64 r, .int .i64 (T k).2.2]) ∧ Hid (RowAt wr (w.heap.size + 1) 38 [.int .i64 0, .int .i64 0, .int .i64 0]) ∧ Hid (Below w.heap.size w wr)) (fun _ _ _ i _ => l.length - (intOf i).toNat)
      case atStart => exact ⟨0, by omega, rfl, by rw [H0.out]; exact G3, by rw [H0.out]; exact R3, Z3, B3⟩
      case round =>
        clear R3 B3 Z3 G3 d0 d1 d2
        obtain ⟨k, hk, rfl, hall, hrow, hres, hbel⟩ := hrel
        by_cases hlt : k < l.length
        · obtain ⟨a', c', b, off, e1, rfl, hc⟩ := HC.out k hlt
          simp only [Value.slice.injEq] at e1
          obtain ⟨rfl, -, rfl⟩ := e1
          have c0 := hc _ hbel.out
          obtain ⟨l1, l2⟩ := HL.out k hlt
          obtain ⟨t1, t2, t3, t4, t5⟩ := HA.out k hk
          obtain ⟨n1, n2, n3, n4, n5⟩ := HA.out (k + 1) hlt
          have hst := HS.out k hlt
          clear hc
          have HF1 : Hid (∀ u : World, Calls Tryd.prog 20 #[.agg #[.int .i64 s, .int .i64 r, .int .i64 (T k).2.2], .int .i64 (l.getD k 0)] u fun e w' => e = .returned (.tuple #[.agg #[.int .i64 s, .int .i64 r, .int .i64 (waitP s r ((T k).2.2 + l.getD k 0))], .agg #[.int .i64 (wentP r ((T k).2.2 + l.getD k 0)), .int .i64 (lostP s r ((T k).2.2 + l.getD k 0)), .int .i64 (waitP s r ((T k).2.2 + l.getD k 0))]]) ∧ Below u.heap.size u w') := fun u => HFi.out _ _ u t5 l1 l2
          have E1 : Hid ((T (k + 1)).1 = (T k).1 + wentP r ((T k).2.2 + l.getD k 0)) := by show _ = _; rw [hst]; rfl
          have E2 : Hid ((T (k + 1)).2.1 = (T k).2.1 + lostP s r ((T k).2.2 + l.getD k 0)) := by show _ = _; rw [hst]; rfl
          have E3 : Hid ((T (k + 1)).2.2 = waitP s r ((T k).2.2 + l.getD k 0)) := by show _ = _; rw [hst]; rfl
          have n1' := E1.out ▸ n1
          have n2' := E1.out ▸ n2
          have n3' := E2.out ▸ n3
          have n4' := E2.out ▸ n4
          clear hst t5 n1 n2 n3 n4 n5
          generalize waitP s r ((T k).2.2 + l.getD k 0) = g3 at *
          generalize wentP r ((T k).2.2 + l.getD k 0) = g1 at *
          generalize lostP s r ((T k).2.2 + l.getD k 0) = g2 at *
          generalize l.getD k 0 = y at *
          generalize (T k).1 = x1 at *
          generalize (T k).2.1 = x2 at *
          generalize (T k).2.2 = x3 at *
          have hwa : IntKind.i64.wrap (x1 + g1) = x1 + g1 := by rw [IntKind.wrap_i64]; omega
          have hwb : IntKind.i64.wrap (x2 + g2) = x2 + g2 := by rw [IntKind.wrap_i64]; omega
          have hga := hall.out.lt
          have hgr := hrow.out.lt
          have hgz := hres.out.lt
          obtain ⟨d0, d1, d2, z0, z1, z2, _⟩ := hrow.out.three
          have HSA : Hid (∀ u : World, Below wr.heap.size wr u → u.cell? ⟨w.heap.size, 0, none⟩ = some (.int .i64 s) ∧ u.cell? ⟨w.heap.size, 1, none⟩ = some (.int .i64 r) ∧ u.cell? ⟨w.heap.size, 2, none⟩ = some (.int .i64 x3) ∧ u.cell? ⟨b, off + k, none⟩ = some (.int .i64 y)) := fun u hu => ⟨cell_later hu d0, cell_later hu d1, cell_later hu d2, cell_later hu c0⟩
          have hB0 : Hid (wr.heap.size ≤ wr.heap.size) := Nat.le_refl _
          have P1 : Hid (Below wr.heap.size wr wr.drew) := (Below.refl _ _).drew
          clear t1 t2 t3 t4 n1' n2' n3' n4' l1 l2
          go_upto_region 11 with fail
          go_cut [10, 11] (fun s10 s11 wc => ∃ g g', s10 = .pointer (some ⟨g, 0, none⟩) ∧ s11 = .pointer (some ⟨g', 0, none⟩) ∧ Hid (wr.heap.size ≤ g) ∧ (wc.cell? ⟨g, 0, none⟩ = some (.int .i64 s) ∧ wc.cell? ⟨g, 1, none⟩ = some (.int .i64 r) ∧ wc.cell? ⟨g, 2, none⟩ = some (.int .i64 g3)) ∧ Hid (wr.heap.size ≤ g') ∧ (wc.cell? ⟨g', 0, none⟩ = some (.int .i64 g1) ∧ wc.cell? ⟨g', 1, none⟩ = some (.int .i64 g2) ∧ wc.cell? ⟨g', 2, none⟩ = some (.int .i64 g3)) ∧ Hid (Below wr.heap.size wr wc))
          case first =>
            as_aux_lemma =>
              clear HFi HA HL HS HE H0 HC HK HT HKp E1 E2 E3
              go_region_held3 (fun u => u.cell? ⟨w.heap.size, 0, none⟩ = some (.int .i64 s) ∧ u.cell? ⟨w.heap.size, 1, none⟩ = some (.int .i64 r) ∧ u.cell? ⟨w.heap.size, 2, none⟩ = some (.int .i64 x3) ∧ u.cell? ⟨b, off + k, none⟩ = some (.int .i64 y))
                ((refine HSA.out _ ?_; (repeat (first | (with_reducible exact P1.out) | (with_reducible exact Hbo.out) | (with_reducible refine Below.setCell ?_ (by first | omega | (simp <;> omega)) _) | (with_reducible refine Below.alloc ?_ (by first | omega | (simp <;> omega)) _) | (with_reducible refine Below.drew ?_) | (with_reducible exact Below.refl _ _))); done))
                (first | (go_at_call 20; refine (HF1.out _).mono ?_; rintro e wo ⟨rfl, hwo⟩; obtain ⟨hco, hfo⟩ := bcell hwo; have hzo : ∀ n, n < _ → n < wo.heap.size := fun n h => Nat.lt_of_lt_of_le h hwo.size; have Hbo : Hid (Below wr.heap.size wr wo) := Bel.call (by (repeat (first | (with_reducible exact P1.out) | (with_reducible refine Below.setCell ?_ (by first | omega | (simp <;> omega)) _) | (with_reducible refine Below.alloc ?_ (by first | omega | (simp <;> omega)) _) | (with_reducible refine Below.drew ?_) | (with_reducible exact Below.refl _ _)))) hB0.out hwo; have yo := Nat.le_trans hB0.out Hbo.out.size))
              all_goals
                have hbw := Hbo.out
                go_wp2_with fail
                go_meet
                case rel =>
                  refine ⟨_, _, rfl, rfl, ?_, ⟨?_, ?_, ?_⟩, ?_, ⟨?_, ?_, ?_⟩, ?_⟩
                  · show wr.heap.size ≤ _
                    first | omega | (simp <;> omega)
                  · first | (go_simp; done) | (have q0 : wo.cell? ⟨wr.heap.size, 0, none⟩ = some (.int .i64 0) := (hco _ _ (by simp <;> omega)).trans (by go_simp); have q1 : wo.cell? ⟨wr.heap.size, 1, none⟩ = some (.int .i64 0) := (hco _ _ (by simp <;> omega)).trans (by go_simp); have q2 : wo.cell? ⟨wr.heap.size, 2, none⟩ = some (.int .i64 0) := (hco _ _ (by simp <;> omega)).trans (by go_simp); go_simp; done) | (have q0 : wo.cell? ⟨wr.heap.size + 1, 0, none⟩ = some (.int .i64 0) := (hco _ _ (by simp <;> omega)).trans (by go_simp); have q1 : wo.cell? ⟨wr.heap.size + 1, 1, none⟩ = some (.int .i64 0) := (hco _ _ (by simp <;> omega)).trans (by go_simp); have q2 : wo.cell? ⟨wr.heap.size + 1, 2, none⟩ = some (.int .i64 0) := (hco _ _ (by simp <;> omega)).trans (by go_simp); go_simp; done)
                  · first | (go_simp; done) | (have q0 : wo.cell? ⟨wr.heap.size, 0, none⟩ = some (.int .i64 0) := (hco _ _ (by simp <;> omega)).trans (by go_simp); have q1 : wo.cell? ⟨wr.heap.size, 1, none⟩ = some (.int .i64 0) := (hco _ _ (by simp <;> omega)).trans (by go_simp); have q2 : wo.cell? ⟨wr.heap.size, 2, none⟩ = some (.int .i64 0) := (hco _ _ (by simp <;> omega)).trans (by go_simp); go_simp; done) | (have q0 : wo.cell? ⟨wr.heap.size + 1, 0, none⟩ = some (.int .i64 0) := (hco _ _ (by simp <;> omega)).trans (by go_simp); have q1 : wo.cell? ⟨wr.heap.size + 1, 1, none⟩ = some (.int .i64 0) := (hco _ _ (by simp <;> omega)).trans (by go_simp); have q2 : wo.cell? ⟨wr.heap.size + 1, 2, none⟩ = some (.int .i64 0) := (hco _ _ (by simp <;> omega)).trans (by go_simp); go_simp; done)
                  · first | (go_simp; done) | (have q0 : wo.cell? ⟨wr.heap.size, 0, none⟩ = some (.int .i64 0) := (hco _ _ (by simp <;> omega)).trans (by go_simp); have q1 : wo.cell? ⟨wr.heap.size, 1, none⟩ = some (.int .i64 0) := (hco _ _ (by simp <;> omega)).trans (by go_simp); have q2 : wo.cell? ⟨wr.heap.size, 2, none⟩ = some (.int .i64 0) := (hco _ _ (by simp <;> omega)).trans (by go_simp); go_simp; done) | (have q0 : wo.cell? ⟨wr.heap.size + 1, 0, none⟩ = some (.int .i64 0) := (hco _ _ (by simp <;> omega)).trans (by go_simp); have q1 : wo.cell? ⟨wr.heap.size + 1, 1, none⟩ = some (.int .i64 0) := (hco _ _ (by simp <;> omega)).trans (by go_simp); have q2 : wo.cell? ⟨wr.heap.size + 1, 2, none⟩ = some (.int .i64 0) := (hco _ _ (by simp <;> omega)).trans (by go_simp); go_simp; done)
                  · show wr.heap.size ≤ _
                    first | omega | (simp <;> omega)
                  · first | (go_simp; done) | (have q0 : wo.cell? ⟨wr.heap.size, 0, none⟩ = some (.int .i64 0) := (hco _ _ (by simp <;> omega)).trans (by go_simp); have q1 : wo.cell? ⟨wr.heap.size, 1, none⟩ = some (.int .i64 0) := (hco _ _ (by simp <;> omega)).trans (by go_simp); have q2 : wo.cell? ⟨wr.heap.size, 2, none⟩ = some (.int .i64 0) := (hco _ _ (by simp <;> omega)).trans (by go_simp); go_simp; done) | (have q0 : wo.cell? ⟨wr.heap.size + 1, 0, none⟩ = some (.int .i64 0) := (hco _ _ (by simp <;> omega)).trans (by go_simp); have q1 : wo.cell? ⟨wr.heap.size + 1, 1, none⟩ = some (.int .i64 0) := (hco _ _ (by simp <;> omega)).trans (by go_simp); have q2 : wo.cell? ⟨wr.heap.size + 1, 2, none⟩ = some (.int .i64 0) := (hco _ _ (by simp <;> omega)).trans (by go_simp); go_simp; done)
                  · first | (go_simp; done) | (have q0 : wo.cell? ⟨wr.heap.size, 0, none⟩ = some (.int .i64 0) := (hco _ _ (by simp <;> omega)).trans (by go_simp); have q1 : wo.cell? ⟨wr.heap.size, 1, none⟩ = some (.int .i64 0) := (hco _ _ (by simp <;> omega)).trans (by go_simp); have q2 : wo.cell? ⟨wr.heap.size, 2, none⟩ = some (.int .i64 0) := (hco _ _ (by simp <;> omega)).trans (by go_simp); go_simp; done) | (have q0 : wo.cell? ⟨wr.heap.size + 1, 0, none⟩ = some (.int .i64 0) := (hco _ _ (by simp <;> omega)).trans (by go_simp); have q1 : wo.cell? ⟨wr.heap.size + 1, 1, none⟩ = some (.int .i64 0) := (hco _ _ (by simp <;> omega)).trans (by go_simp); have q2 : wo.cell? ⟨wr.heap.size + 1, 2, none⟩ = some (.int .i64 0) := (hco _ _ (by simp <;> omega)).trans (by go_simp); go_simp; done)
                  · first | (go_simp; done) | (have q0 : wo.cell? ⟨wr.heap.size, 0, none⟩ = some (.int .i64 0) := (hco _ _ (by simp <;> omega)).trans (by go_simp); have q1 : wo.cell? ⟨wr.heap.size, 1, none⟩ = some (.int .i64 0) := (hco _ _ (by simp <;> omega)).trans (by go_simp); have q2 : wo.cell? ⟨wr.heap.size, 2, none⟩ = some (.int .i64 0) := (hco _ _ (by simp <;> omega)).trans (by go_simp); go_simp; done) | (have q0 : wo.cell? ⟨wr.heap.size + 1, 0, none⟩ = some (.int .i64 0) := (hco _ _ (by simp <;> omega)).trans (by go_simp); have q1 : wo.cell? ⟨wr.heap.size + 1, 1, none⟩ = some (.int .i64 0) := (hco _ _ (by simp <;> omega)).trans (by go_simp); have q2 : wo.cell? ⟨wr.heap.size + 1, 2, none⟩ = some (.int .i64 0) := (hco _ _ (by simp <;> omega)).trans (by go_simp); go_simp; done)
                  · show Below _ _ _
                    repeat (first | (with_reducible exact hbw) | (with_reducible refine Below.setCell ?_ (by first | omega | (simp <;> omega)) _) | (with_reducible refine Below.alloc ?_ (by first | omega | (simp <;> omega)) _) | (with_reducible refine Below.drew ?_))
          case rest =>
            as_aux_lemma =>
              obtain ⟨g, g', rfl, rfl, hg, ⟨m0, m1, m2⟩, hg', ⟨o0, o1, o2⟩, hba⟩ := hcut
              have hgo := hg.out
              have hgo' := hg'.out
              have JA : Hid (RowAt wc w2.heap.size 38 [.int .i64 x1, .int .i64 x2, .int .i64 x3]) := hall.out.later hba.out hga
              have JR : Hid (RowAt wc w.heap.size 33 [.int .i64 s, .int .i64 r, .int .i64 x3]) := hrow.out.later hba.out hgr
              have JZ : Hid (RowAt wc (w.heap.size + 1) 38 [.int .i64 0, .int .i64 0, .int .i64 0]) := hres.out.later hba.out hgz
              have JB : Hid (Below w.heap.size w wc) := Bel.call hbel.out (Nat.le_refl _) hba.out
              have ne1 : ¬ w2.heap.size = w.heap.size := by omega
              have ne2 : ¬ w2.heap.size = w.heap.size + 1 := by omega
              have ne3 : ¬ w2.heap.size = g := by omega
              have ne4 : ¬ g = w2.heap.size := by omega
              have ne5 : ¬ w.heap.size = w2.heap.size := by omega
              have ne6 : ¬ w.heap.size = w.heap.size + 1 := by omega
              clear d0 d1 d2 z0 z1 z2 c0
              obtain ⟨d0, d1, d2, z0, z1, z2, _⟩ := JA.out.three
              obtain ⟨i0, i1, i2, j0, j1, j2, _⟩ := JR.out.three
              have JA2 : Hid (RowAt ((((((wc.setCell ⟨w2.heap.size, 0, none⟩ (.int .i64 (x1 + g1))).setCell ⟨w2.heap.size, 1, none⟩ (.int .i64 (x2 + g2))).setCell ⟨w2.heap.size, 2, none⟩ (.int .i64 g3)).setCell ⟨w.heap.size, 0, none⟩ (.int .i64 s)).setCell ⟨w.heap.size, 1, none⟩ (.int .i64 r)).setCell ⟨w.heap.size, 2, none⟩ (.int .i64 g3)) w2.heap.size 38 [.int .i64 (T (k + 1)).1, .int .i64 (T (k + 1)).2.1, .int .i64 (T (k + 1)).2.2]) := by
                rw [E1.out, E2.out, E3.out]
                exact (((JA.out.set3 _ _ _).other (a := ⟨w.heap.size, 0, none⟩) ne5 _).other (a := ⟨w.heap.size, 1, none⟩) ne5 _).other (a := ⟨w.heap.size, 2, none⟩) ne5 _
              have JR2 : Hid (RowAt ((((((wc.setCell ⟨w2.heap.size, 0, none⟩ (.int .i64 (x1 + g1))).setCell ⟨w2.heap.size, 1, none⟩ (.int .i64 (x2 + g2))).setCell ⟨w2.heap.size, 2, none⟩ (.int .i64 g3)).setCell ⟨w.heap.size, 0, none⟩ (.int .i64 s)).setCell ⟨w.heap.size, 1, none⟩ (.int .i64 r)).setCell ⟨w.heap.size, 2, none⟩ (.int .i64 g3)) w.heap.size 33 [.int .i64 s, .int .i64 r, .int .i64 (T (k + 1)).2.2]) := by
                rw [E3.out]
                exact (((JR.out.other (a := ⟨w2.heap.size, 0, none⟩) ne1 _).other (a := ⟨w2.heap.size, 1, none⟩) ne1 _).other (a := ⟨w2.heap.size, 2, none⟩) ne1 _).set3 _ _ _
              have JZ2 : Hid (RowAt ((((((wc.setCell ⟨w2.heap.size, 0, none⟩ (.int .i64 (x1 + g1))).setCell ⟨w2.heap.size, 1, none⟩ (.int .i64 (x2 + g2))).setCell ⟨w2.heap.size, 2, none⟩ (.int .i64 g3)).setCell ⟨w.heap.size, 0, none⟩ (.int .i64 s)).setCell ⟨w.heap.size, 1, none⟩ (.int .i64 r)).setCell ⟨w.heap.size, 2, none⟩ (.int .i64 g3)) (w.heap.size + 1) 38 [.int .i64 0, .int .i64 0, .int .i64 0]) :=
                (((((JZ.out.other (a := ⟨w2.heap.size, 0, none⟩) ne2 _).other (a := ⟨w2.heap.size, 1, none⟩) ne2 _).other (a := ⟨w2.heap.size, 2, none⟩) ne2 _).other (a := ⟨w.heap.size, 0, none⟩) ne6 _).other (a := ⟨w.heap.size, 1, none⟩) ne6 _).other (a := ⟨w.heap.size, 2, none⟩) ne6 _
              have S2 : w.heap.size ≤ w2.heap.size := by omega
              have JB2 : Hid (Below w.heap.size w ((((((wc.setCell ⟨w2.heap.size, 0, none⟩ (.int .i64 (x1 + g1))).setCell ⟨w2.heap.size, 1, none⟩ (.int .i64 (x2 + g2))).setCell ⟨w2.heap.size, 2, none⟩ (.int .i64 g3)).setCell ⟨w.heap.size, 0, none⟩ (.int .i64 s)).setCell ⟨w.heap.size, 1, none⟩ (.int .i64 r)).setCell ⟨w.heap.size, 2, none⟩ (.int .i64 g3))) :=
                (((((JB.out.setCell S2 _).setCell S2 _).setCell S2 _).setCell (Nat.le_refl _) _).setCell (Nat.le_refl _) _).setCell (Nat.le_refl _) _
              clear HFi HF1 HSA P1 hba JA JR JZ JB
              go_wp2
              go_roundw
              case rel => exact ⟨k + 1, by omega, by go_num, JA2, JR2, JZ2, JB2⟩
              case measure => simp [intOf]; omega
        · obtain rfl : k = l.length := by omega
          rw [HE.out] at hall
          have hln := hall.out
          obtain ⟨d0, d1, d2, z0, z1, z2, _⟩ := hall.out.three
          obtain ⟨i0, i1, i2, j0, j1, j2, _⟩ := hres.out.three
          clear hln
          go_wp2
          refine bodyPost_ret (v := .tuple #[.agg #[.int .i64 SL.1, .int .i64 SL.2.1, .int .i64 SL.2.2], .nilIface]) (by simp [results, Tryd.results14, go_sem, *]) rfl ⟨rfl, ?_⟩
          exact ((hbel.out.setCell S1 _).setCell S1 _).setCell S1 _
    · have hE : prunE s r h l = ticksE l := by rw [prunE, if_pos hk]
      rw [hE]
      rw [hk, errV_0] at HK
      have e0 : ∀ x, okN (ticksE l) x = 0 := fun x => if_neg ht
      rw [errV_ne ht] at HT ⊢
      rw [e0, e0, e0]
      clear e0
      generalize ticksE l = tk at *
      clear hE hk ht
      go_enter Tryd.func14, Tryd.ntmps14
      go_wp2_with fail
      refine (HK.out _).mono ?_
      rintro e w1 ⟨rfl, hw1⟩
      obtain ⟨b1, R1, Z1, hsz⟩ := HKp.out _ hw1
      have B1 : Hid (Below w.heap.size w w1) := b1
      have HZ1 : Hid (RowAt w1 (w.heap.size + 1) 38 [.int .i64 0, .int .i64 0, .int .i64 0]) := Z1
      clear b1 R1 Z1 hw1
      go_wp2_with fail
      refine (HT.out _ B1.out).mono ?_
      rintro e w2 ⟨rfl, hw2⟩
      have B2 : Hid (Below w.heap.size w w2) := Bel.call B1.out (Nat.le_refl _) hw2
      obtain ⟨y0, y1, y2, k0, k1, k2, g1⟩ := (HZ1.out.later hw2 HZ1.out.lt).three
      clear hw2
      go_wp2
      refine bodyPost_ret (v := .tuple #[.agg #[.int .i64 0, .int .i64 0, .int .i64 0], .iface 49 (.int .i64 tk)]) (by simp [results, Tryd.results14, go_sem, *]) rfl ⟨rfl, ?_⟩
      exact ((B2.out.setCell S1 _).setCell S1 _).setCell S1 _
  · have hE : prunE s r h l = poolE s r h := by rw [prunE, if_neg hk]
    rw [hE]
    have e0 : ∀ x, okN (poolE s r h) x = 0 := fun x => if_neg hk
    rw [errV_ne hk] at HK ⊢
    rw [e0, e0, e0]
    clear e0
    generalize poolE s r h = bk at *
    clear hE hk
    go_enter Tryd.func14, Tryd.ntmps14
    go_wp2_with fail
    refine (HK.out _).mono ?_
    rintro e w1 ⟨rfl, hw1⟩
    obtain ⟨b1, R1, Z1, hsz⟩ := HKp.out _ hw1
    have B1 : Hid (Below w.heap.size w w1) := b1
    obtain ⟨y0, y1, y2, k0, k1, k2, g1⟩ := Z1.three
    clear b1 R1 Z1 hw1
    go_wp2
    refine bodyPost_ret (v := .tuple #[.agg #[.int .i64 0, .int .i64 0, .int .i64 0], .iface 49 (.int .i64 bk)]) (by simp [results, Tryd.results14, go_sem, *]) rfl ⟨rfl, ?_⟩
    exact ((B1.out.setCell S1 _).setCell S1 _).setCell S1 _
end Ev
end Go.Proofs.YtoahbapdcghokafDoor
