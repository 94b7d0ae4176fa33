/- The law FracSound returns true for every three fractions and every number: sums either way and taken away again, parts and multiples, and what is more stays more. No condition. -/
import Derived.Test.YtkkmmmmipjnljaaFracSoundA
import Derived.Test.YtkkmmmmipjnljaaRows
import Derived.ProofKit
import Derived.OpenShut
import Derived.Lib.SmallJoins
import Derived.Deep.DeepCutAuto
namespace Go.Proofs.Ytkkmmmmipjnljaa
namespace FracSoundLaw
open Go.ChangeShapes Go.WideShapes Go.ChangeAt Go.RowKit Go.Joins Fr
set_option linter.unusedSimpArgs false
set_option linter.unusedVariables false

theorem own : ownKnob Try.prog.godebug = none := by kernel_rfl
theorem cellsF : Try.prog.cellsOf 27 = 2 := by kernel_rfl

theorem cl {w1 w2 : World} {o : Obj} {a : Addr} {v : Value} (hb : Below (w1.alloc o).heap.size (w1.alloc o) w2) (h : w1.cell? a = some v) : w2.cell? a = some v :=
  cell_later hb ((World.cell?_alloc_lt _ _ _ (World.block_lt_of_cell? _ _ h)).trans h)
theorem cn {w1 w2 : World} {cs : Array Value} {ty : TypeId} {v : Value} (hb : Below (w1.alloc (.cells cs ty)).heap.size (w1.alloc (.cells cs ty)) w2) (j : Nat) (h : cs[j]? = some v) : w2.cell? ⟨w1.heap.size, j, none⟩ = some v :=
  cell_later hb ((World.cell?_alloc_at (hn := rfl) ..).trans h)

theorem ca {w1 : World} {o : Obj} {a : Addr} {v : Value} (h : w1.cell? a = some v) : (w1.alloc o).cell? a = some v := (World.cell?_alloc_lt _ _ _ (World.block_lt_of_cell? _ _ h)).trans h

theorem eql_errV (k : Int) (w : World) : (binOp .eql 29 (errV k) .nilIface).run Try.prog w = .ok (.bool (k == 0)) w := by
  by_cases h : k = 0
  · subst h; rw [errV_0]; go_simp
  · rw [errV_ne h]; go_simp
theorem neq_errV (k : Int) (w : World) : (binOp .neq 29 (errV k) .nilIface).run Try.prog w = .ok (.bool (k != 0)) w := by
  by_cases h : k = 0
  · subst h; rw [errV_0]; go_simp
  · rw [errV_ne h]; go_simp
theorem guard_errV (k : Int) (op : BinOp) (x : Operand) (c : Value) (w : World) : (eqGuard op 29 x (.const c) (errV k) .nilIface).run Try.prog w = .ok () w := by
  by_cases h : k = 0
  · subst h; rw [errV_0, eqGuard_nil_constR]; rfl
  · rw [errV_ne h, eqGuard_at_iface]; rfl
attribute [local go_sem] eql_errV neq_errV guard_errV

/-- a fraction that came in, opened; and read again in whatever world -/
theorem open_frac {H : Type} {enc : TypeId × Value → H} {W : World} {base : Nat} {x : Value} {dd : DataW H} {ps : List MemPlace} (h : DataW.Trod enc Try.prog W 0 (fun _ => true) true 27 x dd ps) (hv : Value.okWide Try.prog W .any base 27 x) :
    ∃ a b : Int, x = .agg #[.int .i64 a, .int .i64 b] ∧ dd = .agg [.lit (.int .i64 a), .lit (.int .i64 b)] ∧ ps = [] ∧ ∀ (W' : World) (sp : Nat → Bool), DataW.Trod enc Try.prog W' 0 sp true 27 (.agg #[.int .i64 a, .int .i64 b]) (.agg [.lit (.int .i64 a), .lit (.int .i64 b)]) [] := by
  obtain ⟨c0, c1, y0, y1, m, rfl, rfl, rfl, hy0, hy1⟩ := open_agg2 Try.underlying27 (by kernel_rfl) cellsF hv h
  obtain ⟨a, e0, rfl, wa⟩ := DataW.trod_int Try.underlying3 hy0
  obtain ⟨b, e1, rfl, wb⟩ := DataW.trod_int Try.underlying3 hy1
  simp at e0 e1
  subst e0 e1
  exact ⟨a, b, rfl, rfl, rfl, fun W' sp => shut_agg2 (y0 := (.lit (.int .i64 a), [])) (y1 := (.lit (.int .i64 b), [])) Try.underlying27 (by kernel_rfl) cellsF ⟨1, by simp [DataW.trod, Try.underlying3, wa]⟩ ⟨1, by simp [DataW.trod, Try.underlying3, wb]⟩⟩

set_option maxHeartbeats 4000000 in
set_option maxRecDepth 100000 in
theorem walk (t b u c v d n : Int) (w : World) :
    Calls Try.prog 4 #[.agg #[.int .i64 t, .int .i64 b], .agg #[.int .i64 u, .int .i64 c], .agg #[.int .i64 v, .int .i64 d], .int .i64 n] w fun e w' => e = .returned (.bool true) ∧ Below w.heap.size w w' := by
  have HO : Hid (pairV (ofT (-6) 4) (ofB (-6) 4) (ofE (-6) 4) = .tuple #[.agg #[.int .i64 (-3), .int .i64 2], .nilIface]) := show _ = _ by
    rw [show ofT (-6) 4 = -3 by decide, show ofB (-6) 4 = 2 by decide, show ofE (-6) 4 = 0 by decide]; rfl
  have HS : Hid (pairV (addT 1 2 1 3) (addB 1 2 1 3) (addE 1 2 1 3) = .tuple #[.agg #[.int .i64 5, .int .i64 6], .nilIface]) := show _ = _ by
    rw [show addT 1 2 1 3 = 5 by decide, show addB 1 2 1 3 = 6 by decide, show addE 1 2 1 3 = 0 by decide]; rfl
  obtain ⟨x1, hx1⟩ : ∃ x, Hid (byT t b n = x) := ⟨_, rfl⟩
  obtain ⟨y1, hy1⟩ : ∃ x, Hid (byB t b n = x) := ⟨_, rfl⟩
  obtain ⟨k1, hk1⟩ : ∃ x, Hid (byE t b n = x) := ⟨_, rfl⟩
  have HB : Hid (pairV (byT t b n) (byB t b n) (byE t b n) = .tuple #[.agg #[.int .i64 x1, .int .i64 y1], errV k1]) := show _ = _ by rw [hx1.out, hy1.out, hk1.out]; rfl
  have HBT : Hid (k1 = 0 → pairV (timesT x1 y1 n) (timesB x1 y1 n) (timesE x1 y1 n) = .tuple #[.agg #[.int .i64 t, .int .i64 b], .nilIface]) := by
    intro h
    obtain ⟨a1, a2, a3⟩ := by_times (hk1.out.trans h)
    rw [hx1.out, hy1.out] at a1 a2 a3
    rw [a1, a2, a3]; rfl
  clear hx1 hy1 hk1
  go_enter Try.func4, Try.ntmps4
  go_wp2_with fail
  refine (Of_any (-6) 4 _).mono ?_
  rintro e w1 ⟨rfl, hb1⟩
  rw [HO.out]
  have B1 : Below w.heap.size w w1 := ((((Below.refl _ _).alloc (Nat.le_refl _) _).alloc (by simp) _).alloc (by simp; omega) _).trans (hb1.mono (by simp; omega))
  have a0_1 : w1.cell? ⟨w.heap.size, 0, none⟩ = some (.int .i64 (t)) := cell_later hb1 (by go_simp)
  have a1_1 : w1.cell? ⟨w.heap.size, 1, none⟩ = some (.int .i64 (b)) := cell_later hb1 (by go_simp)
  have b0_1 : w1.cell? ⟨w.heap.size + 1, 0, none⟩ = some (.int .i64 (u)) := cell_later hb1 (by go_simp)
  have b1_1 : w1.cell? ⟨w.heap.size + 1, 1, none⟩ = some (.int .i64 (c)) := cell_later hb1 (by go_simp)
  have c0_1 : w1.cell? ⟨w.heap.size + 1 + 1, 0, none⟩ = some (.int .i64 (v)) := cell_later hb1 (by go_simp)
  have c1_1 : w1.cell? ⟨w.heap.size + 1 + 1, 1, none⟩ = some (.int .i64 (d)) := cell_later hb1 (by go_simp)
  have az_1 : w.heap.size < w1.heap.size := World.block_lt_of_cell? _ _ a0_1
  have bz_1 : w.heap.size + 1 < w1.heap.size := World.block_lt_of_cell? _ _ b0_1
  have cz_1 : w.heap.size + 1 + 1 < w1.heap.size := World.block_lt_of_cell? _ _ c0_1
  clear hb1
  go_wp2_with fail
  refine (Add_any 1 2 1 3 _).mono ?_
  rintro e w2 ⟨rfl, hb2⟩
  rw [HS.out]
  have B2 : Below w.heap.size w w2 := (B1.alloc B1.size _).trans (hb2.mono (by have := B1.size; simp; omega))
  have a0_2 : w2.cell? ⟨w.heap.size, 0, none⟩ = some (.int .i64 (t)) := cl hb2 a0_1
  have a1_2 : w2.cell? ⟨w.heap.size, 1, none⟩ = some (.int .i64 (b)) := cl hb2 a1_1
  have b0_2 : w2.cell? ⟨w.heap.size + 1, 0, none⟩ = some (.int .i64 (u)) := cl hb2 b0_1
  have b1_2 : w2.cell? ⟨w.heap.size + 1, 1, none⟩ = some (.int .i64 (c)) := cl hb2 b1_1
  have c0_2 : w2.cell? ⟨w.heap.size + 1 + 1, 0, none⟩ = some (.int .i64 (v)) := cl hb2 c0_1
  have c1_2 : w2.cell? ⟨w.heap.size + 1 + 1, 1, none⟩ = some (.int .i64 (d)) := cl hb2 c1_1
  have f0_2 : w2.cell? ⟨w1.heap.size, 0, none⟩ = some (.int .i64 (-3)) := cn hb2 0 rfl
  have f1_2 : w2.cell? ⟨w1.heap.size, 1, none⟩ = some (.int .i64 (2)) := cn hb2 1 rfl
  have az_2 : w.heap.size < w2.heap.size := World.block_lt_of_cell? _ _ a0_2
  have bz_2 : w.heap.size + 1 < w2.heap.size := World.block_lt_of_cell? _ _ b0_2
  have cz_2 : w.heap.size + 1 + 1 < w2.heap.size := World.block_lt_of_cell? _ _ c0_2
  have fz_2 : w1.heap.size < w2.heap.size := World.block_lt_of_cell? _ _ f0_2
  clear a0_1 a1_1 az_1 b0_1 b1_1 bz_1 c0_1 c1_1 cz_1 B1 hb2
  go_wp2_with fail
  refine (By_any t b n _).mono ?_
  rintro e w3 ⟨rfl, hb3⟩
  rw [HB.out]
  have B3 : Below w.heap.size w w3 := (B2.alloc B2.size _).trans (hb3.mono (by have := B2.size; simp; omega))
  have a0_3 : w3.cell? ⟨w.heap.size, 0, none⟩ = some (.int .i64 (t)) := cl hb3 a0_2
  have a1_3 : w3.cell? ⟨w.heap.size, 1, none⟩ = some (.int .i64 (b)) := cl hb3 a1_2
  have b0_3 : w3.cell? ⟨w.heap.size + 1, 0, none⟩ = some (.int .i64 (u)) := cl hb3 b0_2
  have b1_3 : w3.cell? ⟨w.heap.size + 1, 1, none⟩ = some (.int .i64 (c)) := cl hb3 b1_2
  have c0_3 : w3.cell? ⟨w.heap.size + 1 + 1, 0, none⟩ = some (.int .i64 (v)) := cl hb3 c0_2
  have c1_3 : w3.cell? ⟨w.heap.size + 1 + 1, 1, none⟩ = some (.int .i64 (d)) := cl hb3 c1_2
  have f0_3 : w3.cell? ⟨w1.heap.size, 0, none⟩ = some (.int .i64 (-3)) := cl hb3 f0_2
  have f1_3 : w3.cell? ⟨w1.heap.size, 1, none⟩ = some (.int .i64 (2)) := cl hb3 f1_2
  have s0_3 : w3.cell? ⟨w2.heap.size, 0, none⟩ = some (.int .i64 (5)) := cn hb3 0 rfl
  have s1_3 : w3.cell? ⟨w2.heap.size, 1, none⟩ = some (.int .i64 (6)) := cn hb3 1 rfl
  have az_3 : w.heap.size < w3.heap.size := World.block_lt_of_cell? _ _ a0_3
  have bz_3 : w.heap.size + 1 < w3.heap.size := World.block_lt_of_cell? _ _ b0_3
  have cz_3 : w.heap.size + 1 + 1 < w3.heap.size := World.block_lt_of_cell? _ _ c0_3
  have fz_3 : w1.heap.size < w3.heap.size := World.block_lt_of_cell? _ _ f0_3
  have sz_3 : w2.heap.size < w3.heap.size := World.block_lt_of_cell? _ _ s0_3
  clear a0_2 a1_2 az_2 b0_2 b1_2 bz_2 c0_2 c1_2 cz_2 f0_2 f1_2 fz_2 B2 hb3
  clear f0_3 f1_3 fz_3 s0_3 s1_3 sz_3
  go_upto_if 73 with fail
  go_cut [] (fun wc => Below w.heap.size w wc ∧ wc.cell? ⟨w.heap.size, 0, none⟩ = some (.int .i64 t) ∧ wc.cell? ⟨w.heap.size, 1, none⟩ = some (.int .i64 b) ∧ wc.cell? ⟨w.heap.size + 1, 0, none⟩ = some (.int .i64 u) ∧ wc.cell? ⟨w.heap.size + 1, 1, none⟩ = some (.int .i64 c) ∧ wc.cell? ⟨w.heap.size + 1 + 1, 0, none⟩ = some (.int .i64 v) ∧ wc.cell? ⟨w.heap.size + 1 + 1, 1, none⟩ = some (.int .i64 d))
  case first =>
    by_cases h : k1 = 0
    · have q : (k1 == 0) = true := by simp [h]
      have H0 : Hid (k1 = 0) := h
      clear h
      go_wp2_with fail
      refine (Times_any x1 y1 n _).mono ?_
      rintro e w4 ⟨rfl, hb4⟩
      rw [HBT.out H0.out]
      have B4 : Below w.heap.size w w4 := (B3.alloc B3.size _).trans (hb4.mono (by have := B3.size; simp; omega))
      have a0_4 := cl hb4 a0_3
      have a1_4 := cl hb4 a1_3
      have b0_4 := cl hb4 b0_3
      have b1_4 := cl hb4 b1_3
      have c0_4 := cl hb4 c0_3
      have c1_4 := cl hb4 c1_3
      have az_4 : w.heap.size < w4.heap.size := World.block_lt_of_cell? _ _ a0_4
      go_wp2
      go_meet
      case rel => exact ⟨B4.alloc B4.size _, ca a0_4, ca a1_4, ca b0_4, ca b1_4, ca c0_4, ca c1_4⟩
    · have q : (k1 == 0) = false := by simp [h]
      clear h
      go_wp2
      go_meet
      case rel => exact ⟨B3.alloc B3.size _, ca a0_3, ca a1_3, ca b0_3, ca b1_3, ca c0_3, ca c1_3⟩
  case rest =>
    obtain ⟨B9, a0_9, a1_9, b0_9, b1_9, c0_9, c1_9⟩ := hcut
    have az_9 : w.heap.size < wc.heap.size := World.block_lt_of_cell? _ _ a0_9
    have bz_9 : w.heap.size + 1 < wc.heap.size := World.block_lt_of_cell? _ _ b0_9
    have cz_9 : w.heap.size + 1 + 1 < wc.heap.size := World.block_lt_of_cell? _ _ c0_9
    clear B3 a0_3 a1_3 b0_3 b1_3 c0_3 c1_3 az_3 bz_3 cz_3 HO HS HB HBT
    by_cases h : addE t b u c = 0
    · obtain ⟨x2, hx2⟩ : ∃ x, Hid (addT t b u c = x) := ⟨_, rfl⟩
      obtain ⟨y2, hy2⟩ : ∃ x, Hid (addB t b u c = x) := ⟨_, rfl⟩
      obtain ⟨f1, f2, -, -, -⟩ := add_ok h
      have HA : Hid (pairV (addT t b u c) (addB t b u c) (addE t b u c) = .tuple #[.agg #[.int .i64 x2, .int .i64 y2], .nilIface]) := show _ = _ by rw [hx2.out, hy2.out, h]; rfl
      obtain ⟨a1, a2, a3⟩ := add_comm h
      have HC : Hid (pairV (addT u c t b) (addB u c t b) (addE u c t b) = .tuple #[.agg #[.int .i64 x2, .int .i64 y2], .nilIface]) := show _ = _ by rw [a1, a2, a3, hx2.out, hy2.out]; rfl
      obtain ⟨n1, n2, n3, -⟩ := times_neg f2
      have HM : Hid (pairV (timesT u c (-1)) (timesB u c (-1)) (timesE u c (-1)) = .tuple #[.agg #[.int .i64 (-u), .int .i64 c], .nilIface]) := show _ = _ by rw [n1, n2, n3]; rfl
      have HK : Hid (errV (fault x2 y2) = .nilIface) := show _ = _ by rw [← hx2.out, ← hy2.out, add_fault h]; rfl
      obtain ⟨m1, m2, m3⟩ := add_back h
      have HD : Hid (pairV (addT x2 y2 (-u) c) (addB x2 y2 (-u) c) (addE x2 y2 (-u) c) = .tuple #[.agg #[.int .i64 t, .int .i64 b], .nilIface]) := show _ = _ by rw [← hx2.out, ← hy2.out, m1, m2, m3]; rfl
      obtain ⟨x3, hx3⟩ : ∃ x, Hid (addT t b v d = x) := ⟨_, rfl⟩
      obtain ⟨y3, hy3⟩ : ∃ x, Hid (addB t b v d = x) := ⟨_, rfl⟩
      obtain ⟨k3, hk3⟩ : ∃ x, Hid (addE t b v d = x) := ⟨_, rfl⟩
      have HP : Hid (pairV (addT t b v d) (addB t b v d) (addE t b v d) = .tuple #[.agg #[.int .i64 x3, .int .i64 y3], errV k3]) := show _ = _ by rw [hx3.out, hy3.out, hk3.out]; rfl
      obtain ⟨x4, hx4⟩ : ∃ x, Hid (addT u c v d = x) := ⟨_, rfl⟩
      obtain ⟨y4, hy4⟩ : ∃ x, Hid (addB u c v d = x) := ⟨_, rfl⟩
      obtain ⟨k4, hk4⟩ : ∃ x, Hid (addE u c v d = x) := ⟨_, rfl⟩
      have HQ : Hid (pairV (addT u c v d) (addB u c v d) (addE u c v d) = .tuple #[.agg #[.int .i64 x4, .int .i64 y4], errV k4]) := show _ = _ by rw [hx4.out, hy4.out, hk4.out]; rfl
      have F1 : Hid (fault t b = 0) := f1
      have F2 : Hid (fault u c = 0) := f2
      clear h f1 f2 a1 a2 a3 n1 n2 n3 m1 m2 m3
      go_wp2_with fail
      refine (Add_any t b u c _).mono ?_
      rintro e w10 ⟨rfl, hb10⟩
      rw [HA.out]
      have B10 : Below w.heap.size w w10 := B9.trans (hb10.mono B9.size)
      have a0_10 : w10.cell? ⟨w.heap.size, 0, none⟩ = some (.int .i64 (t)) := cell_later hb10 a0_9
      have a1_10 : w10.cell? ⟨w.heap.size, 1, none⟩ = some (.int .i64 (b)) := cell_later hb10 a1_9
      have b0_10 : w10.cell? ⟨w.heap.size + 1, 0, none⟩ = some (.int .i64 (u)) := cell_later hb10 b0_9
      have b1_10 : w10.cell? ⟨w.heap.size + 1, 1, none⟩ = some (.int .i64 (c)) := cell_later hb10 b1_9
      have c0_10 : w10.cell? ⟨w.heap.size + 1 + 1, 0, none⟩ = some (.int .i64 (v)) := cell_later hb10 c0_9
      have c1_10 : w10.cell? ⟨w.heap.size + 1 + 1, 1, none⟩ = some (.int .i64 (d)) := cell_later hb10 c1_9
      have az_10 : w.heap.size < w10.heap.size := World.block_lt_of_cell? _ _ a0_10
      have bz_10 : w.heap.size + 1 < w10.heap.size := World.block_lt_of_cell? _ _ b0_10
      have cz_10 : w.heap.size + 1 + 1 < w10.heap.size := World.block_lt_of_cell? _ _ c0_10
      clear a0_9 a1_9 az_9 b0_9 b1_9 bz_9 c0_9 c1_9 cz_9 B9 hb10
      go_wp2_with fail
      refine (Add_any u c t b _).mono ?_
      rintro e w11 ⟨rfl, hb11⟩
      rw [HC.out]
      have B11 : Below w.heap.size w w11 := (B10.alloc B10.size _).trans (hb11.mono (by have := B10.size; simp; omega))
      have a0_11 : w11.cell? ⟨w.heap.size, 0, none⟩ = some (.int .i64 (t)) := cl hb11 a0_10
      have a1_11 : w11.cell? ⟨w.heap.size, 1, none⟩ = some (.int .i64 (b)) := cl hb11 a1_10
      have b0_11 : w11.cell? ⟨w.heap.size + 1, 0, none⟩ = some (.int .i64 (u)) := cl hb11 b0_10
      have b1_11 : w11.cell? ⟨w.heap.size + 1, 1, none⟩ = some (.int .i64 (c)) := cl hb11 b1_10
      have c0_11 : w11.cell? ⟨w.heap.size + 1 + 1, 0, none⟩ = some (.int .i64 (v)) := cl hb11 c0_10
      have c1_11 : w11.cell? ⟨w.heap.size + 1 + 1, 1, none⟩ = some (.int .i64 (d)) := cl hb11 c1_10
      have s0_11 : w11.cell? ⟨w10.heap.size, 0, none⟩ = some (.int .i64 (x2)) := cn hb11 0 rfl
      have s1_11 : w11.cell? ⟨w10.heap.size, 1, none⟩ = some (.int .i64 (y2)) := cn hb11 1 rfl
      have az_11 : w.heap.size < w11.heap.size := World.block_lt_of_cell? _ _ a0_11
      have bz_11 : w.heap.size + 1 < w11.heap.size := World.block_lt_of_cell? _ _ b0_11
      have cz_11 : w.heap.size + 1 + 1 < w11.heap.size := World.block_lt_of_cell? _ _ c0_11
      have sz_11 : w10.heap.size < w11.heap.size := World.block_lt_of_cell? _ _ s0_11
      clear a0_10 a1_10 az_10 b0_10 b1_10 bz_10 c0_10 c1_10 cz_10 B10 hb11
      go_wp2_with fail
      refine (Times_any u c (-1) _).mono ?_
      rintro e w12 ⟨rfl, hb12⟩
      rw [HM.out]
      have B12 : Below w.heap.size w w12 := (B11.alloc B11.size _).trans (hb12.mono (by have := B11.size; simp; omega))
      have a0_12 : w12.cell? ⟨w.heap.size, 0, none⟩ = some (.int .i64 (t)) := cl hb12 a0_11
      have a1_12 : w12.cell? ⟨w.heap.size, 1, none⟩ = some (.int .i64 (b)) := cl hb12 a1_11
      have b0_12 : w12.cell? ⟨w.heap.size + 1, 0, none⟩ = some (.int .i64 (u)) := cl hb12 b0_11
      have b1_12 : w12.cell? ⟨w.heap.size + 1, 1, none⟩ = some (.int .i64 (c)) := cl hb12 b1_11
      have c0_12 : w12.cell? ⟨w.heap.size + 1 + 1, 0, none⟩ = some (.int .i64 (v)) := cl hb12 c0_11
      have c1_12 : w12.cell? ⟨w.heap.size + 1 + 1, 1, none⟩ = some (.int .i64 (d)) := cl hb12 c1_11
      have s0_12 : w12.cell? ⟨w10.heap.size, 0, none⟩ = some (.int .i64 (x2)) := cl hb12 s0_11
      have s1_12 : w12.cell? ⟨w10.heap.size, 1, none⟩ = some (.int .i64 (y2)) := cl hb12 s1_11
      have r0_12 : w12.cell? ⟨w11.heap.size, 0, none⟩ = some (.int .i64 (x2)) := cn hb12 0 rfl
      have r1_12 : w12.cell? ⟨w11.heap.size, 1, none⟩ = some (.int .i64 (y2)) := cn hb12 1 rfl
      have az_12 : w.heap.size < w12.heap.size := World.block_lt_of_cell? _ _ a0_12
      have bz_12 : w.heap.size + 1 < w12.heap.size := World.block_lt_of_cell? _ _ b0_12
      have cz_12 : w.heap.size + 1 + 1 < w12.heap.size := World.block_lt_of_cell? _ _ c0_12
      have sz_12 : w10.heap.size < w12.heap.size := World.block_lt_of_cell? _ _ s0_12
      have rz_12 : w11.heap.size < w12.heap.size := World.block_lt_of_cell? _ _ r0_12
      clear a0_11 a1_11 az_11 b0_11 b1_11 bz_11 c0_11 c1_11 cz_11 s0_11 s1_11 sz_11 B11 hb12
      go_wp2_with fail
      refine (Check_any x2 y2 _).mono ?_
      rintro e w13 ⟨rfl, hb13⟩
      rw [HK.out]
      have B13 : Below w.heap.size w w13 := (B12.alloc B12.size _).trans (hb13.mono (by have := B12.size; simp; omega))
      have a0_13 : w13.cell? ⟨w.heap.size, 0, none⟩ = some (.int .i64 (t)) := cl hb13 a0_12
      have a1_13 : w13.cell? ⟨w.heap.size, 1, none⟩ = some (.int .i64 (b)) := cl hb13 a1_12
      have b0_13 : w13.cell? ⟨w.heap.size + 1, 0, none⟩ = some (.int .i64 (u)) := cl hb13 b0_12
      have b1_13 : w13.cell? ⟨w.heap.size + 1, 1, none⟩ = some (.int .i64 (c)) := cl hb13 b1_12
      have c0_13 : w13.cell? ⟨w.heap.size + 1 + 1, 0, none⟩ = some (.int .i64 (v)) := cl hb13 c0_12
      have c1_13 : w13.cell? ⟨w.heap.size + 1 + 1, 1, none⟩ = some (.int .i64 (d)) := cl hb13 c1_12
      have s0_13 : w13.cell? ⟨w10.heap.size, 0, none⟩ = some (.int .i64 (x2)) := cl hb13 s0_12
      have s1_13 : w13.cell? ⟨w10.heap.size, 1, none⟩ = some (.int .i64 (y2)) := cl hb13 s1_12
      have r0_13 : w13.cell? ⟨w11.heap.size, 0, none⟩ = some (.int .i64 (x2)) := cl hb13 r0_12
      have r1_13 : w13.cell? ⟨w11.heap.size, 1, none⟩ = some (.int .i64 (y2)) := cl hb13 r1_12
      have m0_13 : w13.cell? ⟨w12.heap.size, 0, none⟩ = some (.int .i64 (-u)) := cn hb13 0 rfl
      have m1_13 : w13.cell? ⟨w12.heap.size, 1, none⟩ = some (.int .i64 (c)) := cn hb13 1 rfl
      have az_13 : w.heap.size < w13.heap.size := World.block_lt_of_cell? _ _ a0_13
      have bz_13 : w.heap.size + 1 < w13.heap.size := World.block_lt_of_cell? _ _ b0_13
      have cz_13 : w.heap.size + 1 + 1 < w13.heap.size := World.block_lt_of_cell? _ _ c0_13
      have sz_13 : w10.heap.size < w13.heap.size := World.block_lt_of_cell? _ _ s0_13
      have rz_13 : w11.heap.size < w13.heap.size := World.block_lt_of_cell? _ _ r0_13
      have mz_13 : w12.heap.size < w13.heap.size := World.block_lt_of_cell? _ _ m0_13
      clear a0_12 a1_12 az_12 b0_12 b1_12 bz_12 c0_12 c1_12 cz_12 s0_12 s1_12 sz_12 r0_12 r1_12 rz_12 B12 hb13
      clear r0_13 r1_13 rz_13
      go_wp2_with fail
      refine (Add_any x2 y2 (-u) c _).mono ?_
      rintro e w14 ⟨rfl, hb14⟩
      rw [HD.out]
      have B14 : Below w.heap.size w w14 := B13.trans (hb14.mono B13.size)
      have a0_14 : w14.cell? ⟨w.heap.size, 0, none⟩ = some (.int .i64 (t)) := cell_later hb14 a0_13
      have a1_14 : w14.cell? ⟨w.heap.size, 1, none⟩ = some (.int .i64 (b)) := cell_later hb14 a1_13
      have b0_14 : w14.cell? ⟨w.heap.size + 1, 0, none⟩ = some (.int .i64 (u)) := cell_later hb14 b0_13
      have b1_14 : w14.cell? ⟨w.heap.size + 1, 1, none⟩ = some (.int .i64 (c)) := cell_later hb14 b1_13
      have c0_14 : w14.cell? ⟨w.heap.size + 1 + 1, 0, none⟩ = some (.int .i64 (v)) := cell_later hb14 c0_13
      have c1_14 : w14.cell? ⟨w.heap.size + 1 + 1, 1, none⟩ = some (.int .i64 (d)) := cell_later hb14 c1_13
      have s0_14 : w14.cell? ⟨w10.heap.size, 0, none⟩ = some (.int .i64 (x2)) := cell_later hb14 s0_13
      have s1_14 : w14.cell? ⟨w10.heap.size, 1, none⟩ = some (.int .i64 (y2)) := cell_later hb14 s1_13
      have m0_14 : w14.cell? ⟨w12.heap.size, 0, none⟩ = some (.int .i64 (-u)) := cell_later hb14 m0_13
      have m1_14 : w14.cell? ⟨w12.heap.size, 1, none⟩ = some (.int .i64 (c)) := cell_later hb14 m1_13
      have az_14 : w.heap.size < w14.heap.size := World.block_lt_of_cell? _ _ a0_14
      have bz_14 : w.heap.size + 1 < w14.heap.size := World.block_lt_of_cell? _ _ b0_14
      have cz_14 : w.heap.size + 1 + 1 < w14.heap.size := World.block_lt_of_cell? _ _ c0_14
      have sz_14 : w10.heap.size < w14.heap.size := World.block_lt_of_cell? _ _ s0_14
      have mz_14 : w12.heap.size < w14.heap.size := World.block_lt_of_cell? _ _ m0_14
      clear a0_13 a1_13 az_13 b0_13 b1_13 bz_13 c0_13 c1_13 cz_13 s0_13 s1_13 sz_13 m0_13 m1_13 mz_13 B13 hb14
      clear s0_14 s1_14 sz_14 m0_14 m1_14 mz_14
      go_wp2_with fail
      refine (Add_any t b v d _).mono ?_
      rintro e w15 ⟨rfl, hb15⟩
      rw [HP.out]
      have B15 : Below w.heap.size w w15 := (B14.alloc B14.size _).trans (hb15.mono (by have := B14.size; simp; omega))
      have a0_15 : w15.cell? ⟨w.heap.size, 0, none⟩ = some (.int .i64 (t)) := cl hb15 a0_14
      have a1_15 : w15.cell? ⟨w.heap.size, 1, none⟩ = some (.int .i64 (b)) := cl hb15 a1_14
      have b0_15 : w15.cell? ⟨w.heap.size + 1, 0, none⟩ = some (.int .i64 (u)) := cl hb15 b0_14
      have b1_15 : w15.cell? ⟨w.heap.size + 1, 1, none⟩ = some (.int .i64 (c)) := cl hb15 b1_14
      have c0_15 : w15.cell? ⟨w.heap.size + 1 + 1, 0, none⟩ = some (.int .i64 (v)) := cl hb15 c0_14
      have c1_15 : w15.cell? ⟨w.heap.size + 1 + 1, 1, none⟩ = some (.int .i64 (d)) := cl hb15 c1_14
      have k0_15 : w15.cell? ⟨w14.heap.size, 0, none⟩ = some (.int .i64 (t)) := cn hb15 0 rfl
      have k1_15 : w15.cell? ⟨w14.heap.size, 1, none⟩ = some (.int .i64 (b)) := cn hb15 1 rfl
      have az_15 : w.heap.size < w15.heap.size := World.block_lt_of_cell? _ _ a0_15
      have bz_15 : w.heap.size + 1 < w15.heap.size := World.block_lt_of_cell? _ _ b0_15
      have cz_15 : w.heap.size + 1 + 1 < w15.heap.size := World.block_lt_of_cell? _ _ c0_15
      have kz_15 : w14.heap.size < w15.heap.size := World.block_lt_of_cell? _ _ k0_15
      clear a0_14 a1_14 az_14 b0_14 b1_14 bz_14 c0_14 c1_14 cz_14 B14 hb15
      clear k0_15 k1_15 kz_15
      go_wp2_with fail
      refine (Add_any u c v d _).mono ?_
      rintro e w16 ⟨rfl, hb16⟩
      rw [HQ.out]
      have B16 : Below w.heap.size w w16 := (B15.alloc B15.size _).trans (hb16.mono (by have := B15.size; simp; omega))
      have a0_16 : w16.cell? ⟨w.heap.size, 0, none⟩ = some (.int .i64 (t)) := cl hb16 a0_15
      have a1_16 : w16.cell? ⟨w.heap.size, 1, none⟩ = some (.int .i64 (b)) := cl hb16 a1_15
      have b0_16 : w16.cell? ⟨w.heap.size + 1, 0, none⟩ = some (.int .i64 (u)) := cl hb16 b0_15
      have b1_16 : w16.cell? ⟨w.heap.size + 1, 1, none⟩ = some (.int .i64 (c)) := cl hb16 b1_15
      have c0_16 : w16.cell? ⟨w.heap.size + 1 + 1, 0, none⟩ = some (.int .i64 (v)) := cl hb16 c0_15
      have c1_16 : w16.cell? ⟨w.heap.size + 1 + 1, 1, none⟩ = some (.int .i64 (d)) := cl hb16 c1_15
      have p0_16 : w16.cell? ⟨w15.heap.size, 0, none⟩ = some (.int .i64 (x3)) := cn hb16 0 rfl
      have p1_16 : w16.cell? ⟨w15.heap.size, 1, none⟩ = some (.int .i64 (y3)) := cn hb16 1 rfl
      have az_16 : w.heap.size < w16.heap.size := World.block_lt_of_cell? _ _ a0_16
      have bz_16 : w.heap.size + 1 < w16.heap.size := World.block_lt_of_cell? _ _ b0_16
      have cz_16 : w.heap.size + 1 + 1 < w16.heap.size := World.block_lt_of_cell? _ _ c0_16
      have pz_16 : w15.heap.size < w16.heap.size := World.block_lt_of_cell? _ _ p0_16
      clear a0_15 a1_15 az_15 b0_15 b1_15 bz_15 c0_15 c1_15 cz_15 B15 hb16
      by_cases h3 : k3 = 0
      · by_cases h4 : k4 = 0
        · have q3 : (k3 != 0) = false := by simp [h3]
          have q4 : (k4 != 0) = false := by simp [h4]
          have g3 : addE t b v d = 0 := hk3.out.trans h3
          have g4 : addE u c v d = 0 := hk4.out.trans h4
          obtain ⟨o, ho⟩ : ∃ o, Hid (cmpV t b u c = o) := ⟨_, rfl⟩
          have o1 : -1 ≤ o ∧ o ≤ 1 := by rw [← ho.out, cmpV_of F1.out F2.out]; exact cmpI_range _ _
          obtain ⟨o1, o2⟩ := o1
          have oz : Hid (o = 0 ↔ t = u ∧ b = c) := by rw [← ho.out]; exact cmpV_zero F1.out F2.out
          have R1 : Hid (Value.tuple #[.int .i64 (cmpV t b u c), errV (fault2 t b u c)] = .tuple #[.int .i64 o, .nilIface]) := show _ = _ by rw [ho.out, fault2_of F1.out F2.out]; rfl
          have R2 : Hid (Value.tuple #[.int .i64 (cmpV x3 y3 x4 y4), errV (fault2 x3 y3 x4 y4)] = .tuple #[.int .i64 o, .nilIface]) := show _ = _ by
            rw [← hx3.out, ← hy3.out, ← hx4.out, ← hy4.out, cmpV_add g3 g4, fault2_of (add_fault g3) (add_fault g4), ho.out]; rfl
          have R3 : Hid (Value.tuple #[.int .i64 (cmpV u c t b), errV (fault2 u c t b)] = .tuple #[.int .i64 (-o), .nilIface]) := show _ = _ by rw [cmpV_neg F1.out F2.out, ho.out, fault2_of F2.out F1.out]; rfl
          clear h3 h4 g3 g4 HA HC HM HK HD HP HQ
          go_wp2_with fail
          refine (Compare_any t b u c _).mono ?_
          rintro e w17 ⟨rfl, hb17⟩
          rw [R1.out]
          have B17 : Below w.heap.size w w17 := (B16.alloc B16.size _).trans (hb17.mono (by have := B16.size; simp; omega))
          have a0_17 : w17.cell? ⟨w.heap.size, 0, none⟩ = some (.int .i64 (t)) := cl hb17 a0_16
          have a1_17 : w17.cell? ⟨w.heap.size, 1, none⟩ = some (.int .i64 (b)) := cl hb17 a1_16
          have b0_17 : w17.cell? ⟨w.heap.size + 1, 0, none⟩ = some (.int .i64 (u)) := cl hb17 b0_16
          have b1_17 : w17.cell? ⟨w.heap.size + 1, 1, none⟩ = some (.int .i64 (c)) := cl hb17 b1_16
          have c0_17 : w17.cell? ⟨w.heap.size + 1 + 1, 0, none⟩ = some (.int .i64 (v)) := cl hb17 c0_16
          have c1_17 : w17.cell? ⟨w.heap.size + 1 + 1, 1, none⟩ = some (.int .i64 (d)) := cl hb17 c1_16
          have p0_17 : w17.cell? ⟨w15.heap.size, 0, none⟩ = some (.int .i64 (x3)) := cl hb17 p0_16
          have p1_17 : w17.cell? ⟨w15.heap.size, 1, none⟩ = some (.int .i64 (y3)) := cl hb17 p1_16
          have q0_17 : w17.cell? ⟨w16.heap.size, 0, none⟩ = some (.int .i64 (x4)) := cn hb17 0 rfl
          have q1_17 : w17.cell? ⟨w16.heap.size, 1, none⟩ = some (.int .i64 (y4)) := cn hb17 1 rfl
          have az_17 : w.heap.size < w17.heap.size := World.block_lt_of_cell? _ _ a0_17
          have bz_17 : w.heap.size + 1 < w17.heap.size := World.block_lt_of_cell? _ _ b0_17
          have cz_17 : w.heap.size + 1 + 1 < w17.heap.size := World.block_lt_of_cell? _ _ c0_17
          have pz_17 : w15.heap.size < w17.heap.size := World.block_lt_of_cell? _ _ p0_17
          have qz_17 : w16.heap.size < w17.heap.size := World.block_lt_of_cell? _ _ q0_17
          clear a0_16 a1_16 az_16 b0_16 b1_16 bz_16 c0_16 c1_16 cz_16 p0_16 p1_16 pz_16 B16 hb17
          go_wp2_with fail
          refine (Compare_any x3 y3 x4 y4 _).mono ?_
          rintro e w18 ⟨rfl, hb18⟩
          rw [R2.out]
          have B18 : Below w.heap.size w w18 := B17.trans (hb18.mono B17.size)
          have a0_18 : w18.cell? ⟨w.heap.size, 0, none⟩ = some (.int .i64 (t)) := cell_later hb18 a0_17
          have a1_18 : w18.cell? ⟨w.heap.size, 1, none⟩ = some (.int .i64 (b)) := cell_later hb18 a1_17
          have b0_18 : w18.cell? ⟨w.heap.size + 1, 0, none⟩ = some (.int .i64 (u)) := cell_later hb18 b0_17
          have b1_18 : w18.cell? ⟨w.heap.size + 1, 1, none⟩ = some (.int .i64 (c)) := cell_later hb18 b1_17
          have c0_18 : w18.cell? ⟨w.heap.size + 1 + 1, 0, none⟩ = some (.int .i64 (v)) := cell_later hb18 c0_17
          have c1_18 : w18.cell? ⟨w.heap.size + 1 + 1, 1, none⟩ = some (.int .i64 (d)) := cell_later hb18 c1_17
          have p0_18 : w18.cell? ⟨w15.heap.size, 0, none⟩ = some (.int .i64 (x3)) := cell_later hb18 p0_17
          have p1_18 : w18.cell? ⟨w15.heap.size, 1, none⟩ = some (.int .i64 (y3)) := cell_later hb18 p1_17
          have q0_18 : w18.cell? ⟨w16.heap.size, 0, none⟩ = some (.int .i64 (x4)) := cell_later hb18 q0_17
          have q1_18 : w18.cell? ⟨w16.heap.size, 1, none⟩ = some (.int .i64 (y4)) := cell_later hb18 q1_17
          have az_18 : w.heap.size < w18.heap.size := World.block_lt_of_cell? _ _ a0_18
          have bz_18 : w.heap.size + 1 < w18.heap.size := World.block_lt_of_cell? _ _ b0_18
          have cz_18 : w.heap.size + 1 + 1 < w18.heap.size := World.block_lt_of_cell? _ _ c0_18
          have pz_18 : w15.heap.size < w18.heap.size := World.block_lt_of_cell? _ _ p0_18
          have qz_18 : w16.heap.size < w18.heap.size := World.block_lt_of_cell? _ _ q0_18
          clear a0_17 a1_17 az_17 b0_17 b1_17 bz_17 c0_17 c1_17 cz_17 p0_17 p1_17 pz_17 q0_17 q1_17 qz_17 B17 hb18
          go_wp2_with fail
          refine (Compare_any u c t b _).mono ?_
          rintro e w19 ⟨rfl, hb19⟩
          rw [R3.out]
          have B19 : Below w.heap.size w w19 := B18.trans (hb19.mono B18.size)
          have a0_19 : w19.cell? ⟨w.heap.size, 0, none⟩ = some (.int .i64 (t)) := cell_later hb19 a0_18
          have a1_19 : w19.cell? ⟨w.heap.size, 1, none⟩ = some (.int .i64 (b)) := cell_later hb19 a1_18
          have b0_19 : w19.cell? ⟨w.heap.size + 1, 0, none⟩ = some (.int .i64 (u)) := cell_later hb19 b0_18
          have b1_19 : w19.cell? ⟨w.heap.size + 1, 1, none⟩ = some (.int .i64 (c)) := cell_later hb19 b1_18
          have c0_19 : w19.cell? ⟨w.heap.size + 1 + 1, 0, none⟩ = some (.int .i64 (v)) := cell_later hb19 c0_18
          have c1_19 : w19.cell? ⟨w.heap.size + 1 + 1, 1, none⟩ = some (.int .i64 (d)) := cell_later hb19 c1_18
          have p0_19 : w19.cell? ⟨w15.heap.size, 0, none⟩ = some (.int .i64 (x3)) := cell_later hb19 p0_18
          have p1_19 : w19.cell? ⟨w15.heap.size, 1, none⟩ = some (.int .i64 (y3)) := cell_later hb19 p1_18
          have q0_19 : w19.cell? ⟨w16.heap.size, 0, none⟩ = some (.int .i64 (x4)) := cell_later hb19 q0_18
          have q1_19 : w19.cell? ⟨w16.heap.size, 1, none⟩ = some (.int .i64 (y4)) := cell_later hb19 q1_18
          have az_19 : w.heap.size < w19.heap.size := World.block_lt_of_cell? _ _ a0_19
          have bz_19 : w.heap.size + 1 < w19.heap.size := World.block_lt_of_cell? _ _ b0_19
          have cz_19 : w.heap.size + 1 + 1 < w19.heap.size := World.block_lt_of_cell? _ _ c0_19
          have pz_19 : w15.heap.size < w19.heap.size := World.block_lt_of_cell? _ _ p0_19
          have qz_19 : w16.heap.size < w19.heap.size := World.block_lt_of_cell? _ _ q0_19
          clear a0_18 a1_18 az_18 b0_18 b1_18 bz_18 c0_18 c1_18 cz_18 p0_18 p1_18 pz_18 q0_18 q1_18 qz_18 B18 hb19
          by_cases e1 : t = u
          · by_cases e2 : b = c
            · have q : (o == 0) = true := beq_iff_eq.2 (oz.out.2 ⟨e1, e2⟩)
              subst e1 e2
              go_wp2
              go_ret
              exact ⟨rfl, B19⟩
            · have q : (o == 0) = false := beq_eq_false_iff_ne.2 (fun h => e2 (oz.out.1 h).2)
              subst e1
              go_wp2
              go_ret
              exact ⟨rfl, B19⟩
          · have q : (o == 0) = false := beq_eq_false_iff_ne.2 (fun h => e1 (oz.out.1 h).1)
            go_wp2
            go_ret
            exact ⟨rfl, B19⟩
        · have q3 : (k3 != 0) = false := by simp [h3]
          have q4 : (k4 != 0) = true := by simp [h4]
          clear h3 h4
          go_wp2
          go_ret
          exact ⟨rfl, B16.alloc B16.size _⟩
      · have q3 : (k3 != 0) = true := by simp [h3]
        clear h3
        go_wp2
        go_ret
        exact ⟨rfl, B16.alloc B16.size _⟩
    · obtain ⟨x2, hx2⟩ : ∃ x, Hid (addT t b u c = x) := ⟨_, rfl⟩
      obtain ⟨y2, hy2⟩ : ∃ x, Hid (addB t b u c = x) := ⟨_, rfl⟩
      obtain ⟨k2, hk2⟩ : ∃ x, Hid (addE t b u c = x) := ⟨_, rfl⟩
      have HA : Hid (pairV (addT t b u c) (addB t b u c) (addE t b u c) = .tuple #[.agg #[.int .i64 x2, .int .i64 y2], errV k2]) := show _ = _ by rw [hx2.out, hy2.out, hk2.out]; rfl
      have q2 : (k2 != 0) = true := by rw [← hk2.out]; simpa using h
      clear h
      go_wp2_with fail
      refine (Add_any t b u c _).mono ?_
      rintro e w10 ⟨rfl, hb10⟩
      rw [HA.out]
      have B10 : Below w.heap.size w w10 := B9.trans (hb10.mono B9.size)
      go_wp2
      go_ret
      exact ⟨rfl, B10.alloc B10.size _⟩

set_option maxRecDepth 100000 in
theorem lifted (os : Os) (started : os.Started) (H : Type) (enc : TypeId × Value → H) :
    ReturnsInHanded {} Try.checked os 4 .any (Rows.fracSoundSpec.pre6 enc Try.prog Try.f4 Rows.fracSoundRow.domain false) (Rows.fracSoundSpec.post enc Try.prog Try.f4 false true false false) := by
  refine returnsInHanded_of_change (C := Try.checked) own started (by kernel_rfl) Try.func4
    (ChangeSpec.witness6 (enc := enc) (C := Try.checked) false ⟨#[], #[.agg #[.int .i64 0, .int .i64 0], .agg #[.int .i64 0, .int .i64 0], .agg #[.int .i64 0, .int .i64 0], .int .i64 0], []⟩ 8 (by kernel_rfl) (by kernel_rfl) (by kernel_rfl) (by kernel_rfl)) ?_
  intro W base args ds gs before hval0 hW _ _
  have hval : ∀ (j : Nat) t v, Try.f4.params[j]? = some t → args[j]? = some v → Value.okWide Try.prog W .any base t v := hval0
  have hW' := hW
  obtain ⟨p, q, hA0, hV, rfl, _, _⟩ := hW
  have hA : DataW.TrodAll enc Try.prog W 0 (fun _ => true) true Try.f4.params.toList args.toList ds p := hA0
  rw [Try.params4] at hA hval
  obtain ⟨v0, v1, v2, v3, d0, d1, d2, d3, p0, p1, p2, p3, rfl, rfl, rfl, h0, h1, h2, h3⟩ := trodAll_four hA
  obtain ⟨rfl, rfl⟩ := trodVars_none hV
  obtain ⟨t, b, rfl, rfl, rfl, r0⟩ := open_frac h0 (hval 0 27 v0 rfl rfl)
  obtain ⟨u, c, rfl, rfl, rfl, r1⟩ := open_frac h1 (hval 1 27 v1 rfl rfl)
  obtain ⟨v, d, rfl, rfl, rfl, r2⟩ := open_frac h2 (hval 2 27 v2 rfl rfl)
  obtain ⟨n, rfl, rfl, rfl, wn⟩ := open_int Try.underlying3 (hval 3 3 v3 rfl rfl) h3
  clear hA0 hval0
  simp only [List.append_nil] at hW'
  refine (walk t b u c v d n W).mono fun e W' ⟨he, hg⟩ => ?_
  subst he
  exact ⟨_, rfl, _, _, _, [], [], [], hW', trodAll_mk1 (shut_bool Try.underlying4 _), trodAll_mk4 (r0 _ _) (r1 _ _) (r2 _ _) (shut_int Try.underlying3 wn), rfl, hg.frame _, fun h => by cases h⟩
end FracSoundLaw

theorem fracSound_holds : Rows.FracSoundSaid :=
  OpenClaim.holds_of_wide 4 Try.f4 rfl rfl rfl rfl rfl rfl rfl ⟨rfl, rfl, rfl, rfl, rfl⟩ rfl rfl rfl rfl rfl (by kernel_rfl) Try.func4 (by kernel_rfl)
    (of_decide_eq_true (by kernel_rfl)) (by unfold Func.isWrapper; rw [if_neg (by decide +kernel)]; exact ⟨rfl, rfl⟩)
    (fun os started H enc _ => FracSoundLaw.lifted os started H enc)
#print axioms fracSound_holds
end Go.Proofs.Ytkkmmmmipjnljaa
