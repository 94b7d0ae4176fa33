/- The law PoolTells returns true for every input, from what is asked of package pool's calls. -/
import Derived.Test.YtoahbapdcghokafDoorPlains
import Derived.Test.YtoahbapdcghokafDoorRPol
import Derived.Test.YtoahbapdcghokafDoorRTicks
import Derived.Test.YtoahbapdcghokafDoorToldB
import Derived.Deep.DeepCutAuto
import Derived.Deep.RegionHeld3
import Derived.Deep.RegionLaw
namespace Go.Proofs.YtoahbapdcghokafDoor
namespace Ev
open Go.RowKit Fr Ns Ld Fl
set_option linter.unusedSimpArgs false
set_option linter.unusedVariables false

theorem okP_0 (n : Int) : okN 0 n = n := if_pos rfl
theorem okP_ne {k : Int} (h : k ≠ 0) (n : Int) : okN k n = 0 := if_neg h
theorem poolE_or (s r h : Int) : poolE s r h = 0 ∨ poolE s r h = 1 := by
  unfold poolE
  split
  · exact .inr rfl
  · exact .inl rfl
/-- a pool that is right stays so; what came is at most six hundred thousand -/
theorem po_at {s r h : Int} {l : List Int} (hb : poolE s r h = 0) (ht : ticksE l = 0) (k : Nat) (hk : k ≤ l.length) :
    poolE s r (poSt s r h (l.take k)).2.2 = 0 ∧ 0 ≤ (poSt s r h (l.take k)).1 ∧ (poSt s r h (l.take k)).1 ≤ 60000 ∧ 0 ≤ (poSt s r h (l.take k)).2.1 ∧ (poSt s r h (l.take k)).2.1 ≤ 610000 := by
  obtain ⟨h60, hl⟩ := ticksE_0.1 ht
  have h0 := poolE_0.1 hb
  obtain ⟨i1, i2, i3, i4, i5, i6⟩ := po_keeps hb (fun x hx => (hl x hx).1) k hk
  have hle : tot (l.take k) ≤ 10000 * 60 := by
    have : ∀ (m : List Int), (∀ x ∈ m, 0 ≤ x ∧ x ≤ 10000) → tot m ≤ 10000 * m.length := fun m hm => by
      induction m with
      | nil => simp [tot]
      | cons a q ih =>
        have h1 := hm a (by simp)
        have h2 := ih (fun x hx => hm x (by simp [hx]))
        simp only [tot, List.length_cons]; omega
    have h1 := this (l.take k) (fun x hx => hl x (List.mem_of_mem_take hx))
    have h2 : (l.take k).length ≤ 60 := by rw [List.length_take]; omega
    omega
  have hcap : (k : Int) * r ≤ 60 * 1000 := Int.mul_le_mul (by omega) (by omega) (by omega) (by decide)
  exact ⟨poolE_0.2 (by omega), by omega, by omega, by omega, by omega⟩

set_option maxRecDepth 100000 in
set_option maxHeartbeats 8000000 in
theorem poolTells_walk (hC : PCheckSaid) (hT : PTickSaid) (hR : PRunSaid) (s r h m : Int) (l : List Int) (v : Value) (w : World)
    (hg : w.cell? ⟨0, 0, none⟩ = some handleV) (hv : IntsAt (fun b => b < w.heap.size) w v l) :
    Calls Tryd.prog 4 #[.agg #[.int .i64 s, .int .i64 r, .int .i64 h], .int .i64 m, v] w fun e w' => e = .returned (.bool true) ∧ Below w.heap.size w w' := by
  have HKp : Hid (∀ u : World, Below (w.heap.size + 1) (w.alloc (.cells #[.int .i64 s, .int .i64 r, .int .i64 h] 33)) u → Below w.heap.size w u ∧ RowAt u w.heap.size 33 [.int .i64 s, .int .i64 r, .int .i64 h] ∧ w.heap.size + 1 ≤ u.heap.size) := fun u hu => by
    have hs := hu.size
    simp at hs
    exact ⟨((Below.refl _ _).alloc (Nat.le_refl _) _).trans (hu.mono (by omega)), (row_made w _ _ _ _ rfl rfl).later hu (by omega), hs⟩
  have HRP : Hid (∀ u : World, Calls Tryd.prog 9 #[.agg #[.int .i64 s, .int .i64 r, .int .i64 h]] u fun e w' => e = .returned (.int .i64 (poolE s r h)) ∧ Below u.heap.size u w') := fun u => RPool_any s r h u
  have HCh : Hid (∀ u : World, Calls Tryd.prog 10 #[.agg #[.int .i64 s, .int .i64 r, .int .i64 h]] u fun e w' => e = .returned (errV (poolE s r h)) ∧ Below u.heap.size u w') := fun u => hC s r h u
  have HFl : Hid (∀ x c : Int, poolE s r x = 0 → 0 ≤ c → c ≤ 10000 → ∀ u : World, Calls Tryd.prog 11 #[.agg #[.int .i64 s, .int .i64 r, .int .i64 x], .int .i64 c] u fun e w' => e = .returned (.tuple #[.agg #[.int .i64 s, .int .i64 r, .int .i64 (waitP s r (x + c))], .agg #[.int .i64 (wentP r (x + c)), .int .i64 (lostP s r (x + c)), .int .i64 (waitP s r (x + c))]]) ∧ Below u.heap.size u w') := fun x c h1 h2 h3 u => RFlow_any s r x c u h1 h2 h3
  have HTi : Hid (∀ u : World, Calls Tryd.prog 12 #[.agg #[.int .i64 s, .int .i64 r, .int .i64 h], .int .i64 m] u fun e w' => e = .returned (.tuple #[.agg #[.int .i64 (okN (ptickE s r h m) s), .int .i64 (okN (ptickE s r h m) r), .int .i64 (okN (ptickE s r h m) (waitP s r (h + m)))],
    .agg #[.int .i64 (okN (ptickE s r h m) (wentP r (h + m))), .int .i64 (okN (ptickE s r h m) (lostP s r (h + m))), .int .i64 (okN (ptickE s r h m) (waitP s r (h + m)))], errV (ptickE s r h m)]) ∧ Below u.heap.size u w') := fun u => hT s r h m u
  have HTk : Hid (∀ u : World, Below w.heap.size w u → Calls Tryd.prog 13 #[v] u fun e w' => e = .returned (.int .i64 (ticksE l)) ∧ w' = u) := fun u hu => RTicks_any l v u (hv.later hu)
  have HRn : Hid (∀ u : World, Below w.heap.size w u → Calls Tryd.prog 14 #[.agg #[.int .i64 s, .int .i64 r, .int .i64 h], v] u fun e w' => e = .returned (.tuple #[.agg #[.int .i64 (okN (prunE s r h l) (poSt s r h l).1), .int .i64 (okN (prunE s r h l) (poSt s r h l).2.1), .int .i64 (okN (prunE s r h l) (poSt s r h l).2.2)], errV (prunE s r h l)]) ∧ Below u.heap.size u w') := fun u hu => hR _ s r h l v u (hv.later hu)
  have HEr : Hid (∀ (k : Int) (u : World), Below w.heap.size w u → Calls Tryd.prog 8 #[errV k, .int .i64 k] u fun e w' => e = .returned (.bool true) ∧ Below u.heap.size u w') := fun k u hu => by
    have := Error_any k k u (cell_later hu hg)
    rw [beq_self_eq_true] at this
    exact this
  have HC : Hid (∀ i, i < l.length → ∃ a c b off, v = .slice a l.length c ∧ a = some ⟨b, off, none⟩ ∧ ∀ u, Below w.heap.size w u → u.cell? ⟨b, off + i, none⟩ = some (.int .i64 (l.getD i 0))) := fun i hi => by
    obtain ⟨a, cap, rfl, h1, h2⟩ := id hv
    obtain ⟨b, off, e, hc⟩ := ints_cells hv i hi
    exact ⟨a, cap, b, off, rfl, e, hc⟩
  have HSE : Hid (prunE s r h l = if poolE s r h = 0 then ticksE l else poolE s r h) := rfl
  have HTE : Hid (ptickE s r h m = if poolE s r h = 0 then (if m < 0 ∨ 10000 < m then 1 else 0) else poolE s r h) := rfl
  have HOr := poolE_or s r h
  have HAt : Hid (poolE s r h = 0 → ticksE l = 0 → ∀ k, k ≤ l.length → poolE s r (poSt s r h (l.take k)).2.2 = 0 ∧ 0 ≤ (poSt s r h (l.take k)).1 ∧ (poSt s r h (l.take k)).1 ≤ 60000 ∧ 0 ≤ (poSt s r h (l.take k)).2.1 ∧ (poSt s r h (l.take k)).2.1 ≤ 610000) := fun h1 h2 k hk => po_at h1 h2 k hk
  have HLe : Hid (ticksE l = 0 → ∀ k, k < l.length → 0 ≤ l.getD k 0 ∧ l.getD k 0 ≤ 10000) := fun h1 k hk => (ticksE_0.1 h1).2 _ (getD_mem l k hk 0)
  have HSt : Hid (∀ k, k < l.length → poSt s r h (l.take (k + 1)) = stepP s r (poSt s r h (l.take k)) (l.getD k 0)) := fun k hk => poSt_step s r h l k hk
  have HS0 : Hid (poSt s r h (l.take 0) = (0, 0, h)) := rfl
  have HSl : Hid (poSt s r h (l.take l.length) = poSt s r h l) := by show _ = _; rw [take_all (Nat.le_refl _)]
  have HP0 : Hid (poolE s r h = 0 → 0 ≤ h ∧ h ≤ 10000 ∧ 1 ≤ r) := fun h0 => by have := poolE_0.1 h0; omega
  obtain ⟨a, cap, rfl, ⟨hm1, hm2⟩, _⟩ := hv
  obtain ⟨T, hT'⟩ : ∃ T : Nat → Int × Int × Int, ∀ k, poSt s r h (l.take k) = T k := ⟨_, fun _ => rfl⟩
  simp only [hT'] at HAt HSt HS0 HSl
  clear hT'
  obtain ⟨Z, hZ⟩ : ∃ Z, poSt s r h l = Z := ⟨_, rfl⟩
  rw [hZ] at HSl HRn
  obtain ⟨e0, he0⟩ : ∃ e, Hid (poolE s r h = e) := ⟨_, rfl⟩
  have HFm : Hid (e0 = 0 → ¬ (m < 0 ∨ 10000 < m) → ∀ u : World, Calls Tryd.prog 11 #[.agg #[.int .i64 s, .int .i64 r, .int .i64 h], .int .i64 m] u fun e w' => e = .returned (.tuple #[.agg #[.int .i64 s, .int .i64 r, .int .i64 (waitP s r (h + m))], .agg #[.int .i64 (wentP r (h + m)), .int .i64 (lostP s r (h + m)), .int .i64 (waitP s r (h + m))]]) ∧ Below u.heap.size u w') := fun h1 h2 u => HFl.out h m (by rw [he0.out]; exact h1) (by omega) (by omega) u
  rw [he0.out] at HRP HCh HSE HTE HOr HAt HP0
  clear he0 hZ
  generalize prunE s r h l = se at *
  generalize ptickE s r h m = te at *
  generalize ticksE l = tk at *
  generalize waitP s r (h + m) = wp at *
  generalize wentP r (h + m) = gp at *
  generalize lostP s r (h + m) = lp at *
  have HE1 : Hid (∀ u : World, Below w.heap.size w u → Calls Tryd.prog 8 #[errV e0, .int .i64 e0] u fun e w' => e = .returned (.bool true) ∧ Below u.heap.size u w') := HEr.out e0
  have HE2 : Hid (∀ u : World, Below w.heap.size w u → Calls Tryd.prog 8 #[errV te, .int .i64 te] u fun e w' => e = .returned (.bool true) ∧ Below u.heap.size u w') := HEr.out te
  have HE3 : Hid (∀ u : World, Below w.heap.size w u → Calls Tryd.prog 8 #[errV se, .int .i64 se] u fun e w' => e = .returned (.bool true) ∧ Below u.heap.size u w') := HEr.out se
  clear hC hT hR hg HEr
  obtain ⟨W0, HW0⟩ : ∃ W0, Hid (w.alloc (.cells #[.int .i64 s, .int .i64 r, .int .i64 h] 33) = W0) := ⟨_, rfl⟩
  rw [HW0.out] at HKp
  have K0 : Hid (Below (w.heap.size + 1) W0 W0) := Below.refl _ _
  go_enter Tryd.func4, Tryd.ntmps4
  go_upto_region 1 with fail
  rw [HW0.out]
  obtain ⟨B0, R0, S0⟩ := HKp.out _ K0.out
  obtain ⟨d0, d1, d2, z0, z1, z2, hgz⟩ := R0.three
  go_wp2_with fail
  refine (HRP.out _).mono ?_
  rintro e w1 ⟨rfl, hw1⟩
  have K1 : Hid (Below (w.heap.size + 1) W0 w1) := Bel.call K0.out S0 hw1
  clear hw1 d0 d1 d2 z0 z1 z2 hgz R0 B0
  obtain ⟨B1, R1, S1⟩ := HKp.out _ K1.out
  obtain ⟨d0, d1, d2, z0, z1, z2, hgz⟩ := R1.three
  go_wp2_with fail
  refine (HCh.out _).mono ?_
  rintro e w2 ⟨rfl, hw2⟩
  have K2 : Hid (Below (w.heap.size + 1) W0 w2) := Bel.call K1.out S0 hw2
  clear hw2 d0 d1 d2 z0 z1 z2 hgz R1 B1
  obtain ⟨B2, R2, S2⟩ := HKp.out _ K2.out
  go_wp2_with fail
  refine (HE1.out _ B2).mono ?_
  rintro e w3 ⟨rfl, hw3⟩
  have K3 : Hid (Below (w.heap.size + 1) W0 w3) := Bel.call K2.out S0 hw3
  clear hw3 R2 B2
  obtain ⟨B3, R3, S3⟩ := HKp.out _ K3.out
  have Z10 : Hid (RowAt ((w3.alloc (.cells #[.int .i64 0, .int .i64 0, .int .i64 0] 33)).alloc (.cells #[.int .i64 0, .int .i64 0, .int .i64 0] 38)) w3.heap.size 33 [.int .i64 0, .int .i64 0, .int .i64 0]) := (row_made w3 _ _ _ _ rfl rfl).alloc _
  have Z11 : Hid (RowAt ((w3.alloc (.cells #[.int .i64 0, .int .i64 0, .int .i64 0] 33)).alloc (.cells #[.int .i64 0, .int .i64 0, .int .i64 0] 38)) (w3.heap.size + 1) 38 [.int .i64 0, .int .i64 0, .int .i64 0]) := row_made _ _ _ _ _ (by simp) rfl
  have K4 : Hid (Below (w.heap.size + 1) W0 ((w3.alloc (.cells #[.int .i64 0, .int .i64 0, .int .i64 0] 33)).alloc (.cells #[.int .i64 0, .int .i64 0, .int .i64 0] 38))) := (K3.out.alloc S3 _).alloc (by simp; omega) _
  go_upto_region 6 with fail
  obtain ⟨g10, hg10⟩ : ∃ g, Hid (w3.heap.size = g) := ⟨_, rfl⟩
  obtain ⟨g11, hg11⟩ : ∃ g, Hid (w3.heap.size + 1 = g) := ⟨_, rfl⟩
  rw [hg11.out] at Z11
  rw [hg10.out] at Z10
  have N1 : ¬ g10 = g11 := by have := hg10.out; have := hg11.out; omega
  have N2 : ¬ g11 = g10 := fun e => N1 e.symm
  have S10 : w.heap.size + 1 ≤ g10 := by have := hg10.out; omega
  have S11 : w.heap.size + 1 ≤ g11 := by have := hg11.out; omega
  rw [hg11.out, hg10.out]
  generalize ((w3.alloc (.cells #[.int .i64 0, .int .i64 0, .int .i64 0] 33)).alloc (.cells #[.int .i64 0, .int .i64 0, .int .i64 0] 38)) = w4 at *
  clear hg10 hg11 K3 K2 K1 K0 R3 B3 S3 S2 S1
  obtain ⟨o1, ho1⟩ : ∃ o, Hid ((decide (e0 = 0) && decide (m < 0 ∨ 10000 < m)) = o) := ⟨_, rfl⟩
  go_cut [37] (fun s37 wc => s37 = .bool o1 ∧ Hid (wc = w4))
  case first =>
    as_aux_lemma =>
      rcases HOr with rfl | rfl
      · by_cases c1 : m < 0
        · obtain rfl : o1 = true := by rw [← ho1.out]; simp; omega
          clear ho1
          go_wp2
          go_meet
          case rel => exact ⟨rfl, rfl⟩
        · by_cases c2 : 10000 < m
          · obtain rfl : o1 = true := by rw [← ho1.out]; simp; omega
            clear ho1
            go_wp2
            go_meet
            case rel => exact ⟨rfl, rfl⟩
          · obtain rfl : o1 = false := by rw [← ho1.out]; simp; omega
            clear ho1
            go_wp2
            go_meet
            case rel => exact ⟨rfl, rfl⟩
      · obtain rfl : o1 = false := by rw [← ho1.out]; rfl
        clear ho1
        go_wp2
        go_meet
        case rel => exact ⟨rfl, rfl⟩
  case rest =>
    as_aux_lemma =>
      obtain ⟨rfl, hw4⟩ := hcut
      obtain rfl := hw4.out
      obtain ⟨w4, rfl⟩ : ∃ x : World, x = wc := ⟨_, rfl⟩
      obtain ⟨B4, R4, S4⟩ := HKp.out _ K4.out
      obtain ⟨d0, d1, d2, z0, z1, z2, hgz⟩ := R4.three
      go_upto_if 37 with fail
      go_cut [9] (fun s9 wc => s9 = .int .i64 te ∧ Hid (RowAt wc g10 33 [.int .i64 (okN te s), .int .i64 (okN te r), .int .i64 (okN te wp)]) ∧ Hid (RowAt wc g11 38 [.int .i64 (okN te gp), .int .i64 (okN te lp), .int .i64 (okN te wp)]) ∧ Hid (Below (w.heap.size + 1) W0 wc))
      case first =>
        as_aux_lemma =>
          rcases HOr with rfl | rfl
          · by_cases c1 : m < 0 ∨ 10000 < m
            · obtain rfl : o1 = true := by rw [← ho1.out]; simpa using c1
              obtain rfl : te = 1 := by rw [HTE.out, if_pos rfl, if_pos c1]
              clear ho1 HTE c1
              go_wp2
              go_meet
              case rel => exact ⟨rfl, Z10, Z11, K4⟩
            · obtain rfl : o1 = false := by rw [← ho1.out]; simp; omega
              obtain rfl : te = 0 := by rw [HTE.out, if_pos rfl, if_neg c1]
              have HFm' : Hid (∀ u : World, Calls Tryd.prog 11 #[.agg #[.int .i64 s, .int .i64 r, .int .i64 h], .int .i64 m] u fun e w' => e = .returned (.tuple #[.agg #[.int .i64 s, .int .i64 r, .int .i64 wp], .agg #[.int .i64 gp, .int .i64 lp, .int .i64 wp]]) ∧ Below u.heap.size u w') := HFm.out rfl c1
              clear ho1 HTE c1
              go_wp2_with fail
              refine (HFm'.out _).mono ?_
              rintro e w5 ⟨rfl, hw5⟩
              have K5 : Hid (Below (w.heap.size + 1) W0 w5) := Bel.call K4.out S0 hw5
              have Q10 : Hid (RowAt w5 g10 33 [.int .i64 0, .int .i64 0, .int .i64 0]) := Z10.out.later hw5 Z10.out.lt
              have Q11 : Hid (RowAt w5 g11 38 [.int .i64 0, .int .i64 0, .int .i64 0]) := Z11.out.later hw5 Z11.out.lt
              have Y10 : Hid (RowAt ((((((w5.setCell ⟨g10, 0, none⟩ (.int .i64 s)).setCell ⟨g10, 1, none⟩ (.int .i64 r)).setCell ⟨g10, 2, none⟩ (.int .i64 wp)).setCell ⟨g11, 0, none⟩ (.int .i64 gp)).setCell ⟨g11, 1, none⟩ (.int .i64 lp)).setCell ⟨g11, 2, none⟩ (.int .i64 wp)) g10 33 [.int .i64 s, .int .i64 r, .int .i64 wp]) := (((Q10.out.set3 _ _ _).other (a := ⟨g11, 0, none⟩) N2 _).other (a := ⟨g11, 1, none⟩) N2 _).other (a := ⟨g11, 2, none⟩) N2 _
              have Y11 : Hid (RowAt ((((((w5.setCell ⟨g10, 0, none⟩ (.int .i64 s)).setCell ⟨g10, 1, none⟩ (.int .i64 r)).setCell ⟨g10, 2, none⟩ (.int .i64 wp)).setCell ⟨g11, 0, none⟩ (.int .i64 gp)).setCell ⟨g11, 1, none⟩ (.int .i64 lp)).setCell ⟨g11, 2, none⟩ (.int .i64 wp)) g11 38 [.int .i64 gp, .int .i64 lp, .int .i64 wp]) := (((Q11.out.other (a := ⟨g10, 0, none⟩) N1 _).other (a := ⟨g10, 1, none⟩) N1 _).other (a := ⟨g10, 2, none⟩) N1 _).set3 _ _ _
              have K5' : Hid (Below (w.heap.size + 1) W0 ((((((w5.setCell ⟨g10, 0, none⟩ (.int .i64 s)).setCell ⟨g10, 1, none⟩ (.int .i64 r)).setCell ⟨g10, 2, none⟩ (.int .i64 wp)).setCell ⟨g11, 0, none⟩ (.int .i64 gp)).setCell ⟨g11, 1, none⟩ (.int .i64 lp)).setCell ⟨g11, 2, none⟩ (.int .i64 wp))) := (((((K5.out.setCell S10 _).setCell S10 _).setCell S10 _).setCell S11 _).setCell S11 _).setCell S11 _
              clear hw5 d0 d1 d2 z0 z1 z2 hgz
              obtain ⟨d0, d1, d2, z0, z1, z2, hgz10⟩ := Q10.out.three
              obtain ⟨f0, f1, f2, y0, y1, y2, hgz11⟩ := Q11.out.three
              go_wp2
              go_meet
              case rel => exact ⟨rfl, by rw [okP_0, okP_0, okP_0]; exact Y10, by rw [okP_0, okP_0, okP_0]; exact Y11, K5'⟩
          · obtain rfl : o1 = false := by rw [← ho1.out]; rfl
            obtain rfl : te = 1 := by rw [HTE.out, if_neg (by decide)]
            clear ho1 HTE
            go_wp2
            go_meet
            case rel => exact ⟨rfl, Z10, Z11, K4⟩
      case rest =>
        as_aux_lemma =>
          clear d0 d1 d2 z0 z1 z2 hgz Z10 Z11 K4 B4 R4 S4 ho1 HTE HFm
          obtain ⟨w5, rfl⟩ : ∃ x : World, x = wc := ⟨_, rfl⟩
          obtain ⟨rfl, R10, R11, K5⟩ := hcut
          obtain ⟨B5, R5, S5⟩ := HKp.out _ K5.out
          obtain ⟨d0, d1, d2, z0, z1, z2, hgz⟩ := R5.three
          obtain ⟨t1, ht1⟩ : ∃ t, okN te s = t := ⟨_, rfl⟩
          obtain ⟨t2, ht2⟩ : ∃ t, okN te r = t := ⟨_, rfl⟩
          obtain ⟨t3, ht3⟩ : ∃ t, okN te wp = t := ⟨_, rfl⟩
          obtain ⟨t4, ht4⟩ : ∃ t, okN te gp = t := ⟨_, rfl⟩
          obtain ⟨t5, ht5⟩ : ∃ t, okN te lp = t := ⟨_, rfl⟩
          rw [ht1, ht2, ht3] at R10
          rw [ht3, ht4, ht5] at R11
          rw [ht1, ht2, ht3, ht4, ht5] at HTi
          clear ht1 ht2 ht3 ht4 ht5
          go_wp2_with fail
          refine (HTi.out _).mono ?_
          rintro e w6 ⟨rfl, hw6⟩
          have K6 : Hid (Below (w.heap.size + 1) W0 w6) := Bel.call K5.out S0 hw6
          have S6 : w.heap.size + 1 ≤ w6.heap.size := by have := hw6.size; omega
          have L10 : g10 < w6.heap.size := Nat.lt_of_lt_of_le R10.out.lt hw6.size
          have L11 : g11 < w6.heap.size := Nat.lt_of_lt_of_le R11.out.lt hw6.size
          have P10 : Hid (RowAt ((w6.alloc (.cells #[.int .i64 t1, .int .i64 t2, .int .i64 t3] 33)).alloc (.cells #[.int .i64 t4, .int .i64 t5, .int .i64 t3] 38)) g10 33 [.int .i64 t1, .int .i64 t2, .int .i64 t3]) := ((R10.out.later hw6 R10.out.lt).alloc _).alloc _
          have P11 : Hid (RowAt ((w6.alloc (.cells #[.int .i64 t1, .int .i64 t2, .int .i64 t3] 33)).alloc (.cells #[.int .i64 t4, .int .i64 t5, .int .i64 t3] 38)) g11 38 [.int .i64 t4, .int .i64 t5, .int .i64 t3]) := ((R11.out.later hw6 R11.out.lt).alloc _).alloc _
          have P12 : Hid (RowAt ((w6.alloc (.cells #[.int .i64 t1, .int .i64 t2, .int .i64 t3] 33)).alloc (.cells #[.int .i64 t4, .int .i64 t5, .int .i64 t3] 38)) w6.heap.size 33 [.int .i64 t1, .int .i64 t2, .int .i64 t3]) := (row_made w6 _ _ _ _ rfl rfl).alloc _
          have P13 : Hid (RowAt ((w6.alloc (.cells #[.int .i64 t1, .int .i64 t2, .int .i64 t3] 33)).alloc (.cells #[.int .i64 t4, .int .i64 t5, .int .i64 t3] 38)) (w6.heap.size + 1) 38 [.int .i64 t4, .int .i64 t5, .int .i64 t3]) := row_made _ _ _ _ _ (by simp) rfl
          have K7 : Hid (Below (w.heap.size + 1) W0 ((w6.alloc (.cells #[.int .i64 t1, .int .i64 t2, .int .i64 t3] 33)).alloc (.cells #[.int .i64 t4, .int .i64 t5, .int .i64 t3] 38))) := (K6.out.alloc S6 _).alloc (by simp; omega) _
          have B7 : Hid (Below w.heap.size w ((w6.alloc (.cells #[.int .i64 t1, .int .i64 t2, .int .i64 t3] 33)).alloc (.cells #[.int .i64 t4, .int .i64 t5, .int .i64 t3] 38))) := (HKp.out _ K7.out).1
          clear hw6 d0 d1 d2 z0 z1 z2 hgz R5 B5 S5 R10 R11 K5 K6
          go_wp2_with fail
          refine (HE2.out _ B7.out).mono ?_
          rintro e w8 ⟨rfl, hw8⟩
          have K8 : Hid (Below (w.heap.size + 1) W0 w8) := Bel.call K7.out S0 hw8
          have Q10 : Hid (RowAt w8 g10 33 [.int .i64 t1, .int .i64 t2, .int .i64 t3]) := P10.out.later hw8 P10.out.lt
          have Q11 : Hid (RowAt w8 g11 38 [.int .i64 t4, .int .i64 t5, .int .i64 t3]) := P11.out.later hw8 P11.out.lt
          have Q12 : Hid (RowAt w8 w6.heap.size 33 [.int .i64 t1, .int .i64 t2, .int .i64 t3]) := P12.out.later hw8 P12.out.lt
          have Q13 : Hid (RowAt w8 (w6.heap.size + 1) 38 [.int .i64 t4, .int .i64 t5, .int .i64 t3]) := P13.out.later hw8 P13.out.lt
          clear hw8 P10 P11 P12 P13 K7 B7
          obtain ⟨g12, hg12⟩ : ∃ g, Hid (w6.heap.size = g) := ⟨_, rfl⟩
          obtain ⟨g13, hg13⟩ : ∃ g, Hid (w6.heap.size + 1 = g) := ⟨_, rfl⟩
          rw [hg13.out] at Q13
          rw [hg12.out] at Q12
          have S13 : w.heap.size + 1 ≤ g13 := by have := hg13.out; omega
          rw [hg13.out, hg12.out]
          clear hg12 hg13 S6 L10 L11
          obtain ⟨a0, a1, a2, _, _, _, l10⟩ := Q10.out.three
          obtain ⟨b0, b1, b2, _, _, _, l11⟩ := Q11.out.three
          obtain ⟨c0, c1, c2, _, _, _, l12⟩ := Q12.out.three
          obtain ⟨d0, d1, d2, _, _, _, l13⟩ := Q13.out.three
          obtain ⟨B8, R8, S8⟩ := HKp.out _ K8.out
          go_upto_if 67 with fail
          clear a0 a1 a2 b0 b1 b2 c0 c1 c2 d0 d1 d2 l10 l11 l12 Q10 Q11 Q12
          go_cut [7] (fun s7 wc => s7 = .int .i64 se ∧ Hid (wc = w8))
          case first =>
            as_aux_lemma =>
              rcases HOr with rfl | rfl
              · obtain rfl : se = tk := by rw [HSE.out, if_pos rfl]
                clear HSE
                go_wp2_with fail
                refine (HTk.out _ B8).mono ?_
                rintro e w9 ⟨rfl, rfl⟩
                go_wp2
                go_meet
                case rel => exact ⟨rfl, rfl⟩
              · obtain rfl : se = 1 := by rw [HSE.out, if_neg (by decide)]
                clear HSE
                go_wp2
                go_meet
                case rel => exact ⟨rfl, rfl⟩
          case rest =>
            as_aux_lemma =>
              obtain ⟨rfl, hw8⟩ := hcut
              obtain rfl := hw8.out
              obtain ⟨w8, rfl⟩ : ∃ x : World, x = wc := ⟨_, rfl⟩
              obtain ⟨d0, d1, d2, z0, z1, z2, hgz⟩ := R8.three
              have E16 : Hid (RowAt ((w8.alloc (.cells #[.int .i64 0, .int .i64 0, .int .i64 h] 38)).alloc (.cells #[.int .i64 s, .int .i64 r, .int .i64 h] 33)) w8.heap.size 38 [.int .i64 0, .int .i64 0, .int .i64 h]) := (row_made w8 _ _ _ _ rfl rfl).alloc _
              have E17 : Hid (RowAt ((w8.alloc (.cells #[.int .i64 0, .int .i64 0, .int .i64 h] 38)).alloc (.cells #[.int .i64 s, .int .i64 r, .int .i64 h] 33)) (w8.heap.size + 1) 33 [.int .i64 s, .int .i64 r, .int .i64 h]) := row_made _ _ _ _ _ (by simp) rfl
              have E13 : Hid (RowAt ((w8.alloc (.cells #[.int .i64 0, .int .i64 0, .int .i64 h] 38)).alloc (.cells #[.int .i64 s, .int .i64 r, .int .i64 h] 33)) g13 38 [.int .i64 t4, .int .i64 t5, .int .i64 t3]) := (Q13.out.alloc _).alloc _
              have K9 : Hid (Below (w.heap.size + 1) W0 ((w8.alloc (.cells #[.int .i64 0, .int .i64 0, .int .i64 h] 38)).alloc (.cells #[.int .i64 s, .int .i64 r, .int .i64 h] 33))) := (K8.out.alloc S8 _).alloc (by simp; omega) _
              by_cases hse : se = 0
              · have hee : e0 = 0 ∧ tk = 0 := by
                  rcases HOr with rfl | rfl
                  · rw [HSE.out, if_pos rfl] at hse; exact ⟨rfl, hse⟩
                  · rw [HSE.out, if_neg (by decide)] at hse; cases hse
                obtain ⟨hee1, hee2⟩ := hee
                have HAt' := (show Hid (∀ k, k ≤ l.length → _) from HAt.out hee1 hee2)
                have HLe' := (show Hid (∀ k, k < l.length → _) from HLe.out hee2)
                subst hse
                clear HOr HSE hee1 hee2 HAt HLe HTk HRP HCh HTi HE1 HE2 HP0
                go_wp2
                obtain ⟨g16, hg16⟩ : ∃ g, Hid (w8.heap.size = g) := ⟨_, rfl⟩
                obtain ⟨g17, hg17⟩ : ∃ g, Hid (w8.heap.size + 1 = g) := ⟨_, rfl⟩
                have S16 : w.heap.size + 1 ≤ g16 := by have := hg16.out; omega
                have S17 : w.heap.size + 1 ≤ g17 := by have := hg17.out; omega
                have M1 : ¬ g16 = g17 := by have := hg16.out; have := hg17.out; omega
                have M2 : ¬ g17 = g16 := fun e => M1 e.symm
                have M3 : ¬ g13 = g16 := by have := hg16.out; omega
                have M4 : ¬ g13 = g17 := by have := hg17.out; omega
                have M5 : ¬ g16 = g13 := fun e => M3 e.symm
                have M6 : ¬ g17 = g13 := fun e => M4 e.symm
                rw [hg17.out] at E17
                rw [hg16.out] at E16
                rw [hg17.out, hg16.out]
                generalize ((w8.alloc (.cells #[.int .i64 0, .int .i64 0, .int .i64 h] 38)).alloc (.cells #[.int .i64 s, .int .i64 r, .int .i64 h] 33)) = w9 at *
                clear hg16 hg17 d0 d1 d2 z0 z1 z2 hgz l13 Q13 R8 B8 S8 K8
                have HRt : Hid (w9 = w9) := rfl
                go_loopw [18, 19] (fun s18 _ wr => ∃ k : Nat, k ≤ l.length ∧ s18 = .int .i64 k ∧ Hid (RowAt wr g16 38 [.int .i64 ((T k).1), .int .i64 ((T k).2.1), .int .i64 ((T k).2.2)]) ∧ Hid (RowAt wr g17 33 [.int .i64 s, .int .i64 r, .int .i64 ((T k).2.2)]) ∧ Hid (RowAt wr g13 38 [.int .i64 t4, .int .i64 t5, .int .i64 t3]) ∧ Hid (Below (w.heap.size + 1) W0 wr)) (fun s18 _ _ => l.length - (intOf s18).toNat)
                case atStart => exact ⟨0, by omega, rfl, by rw [HS0.out]; exact E16, by rw [HS0.out]; exact E17, E13, K9⟩
                case round =>
                  obtain ⟨k, hk, rfl, h16, h17, h13, hK⟩ := hrel
                  obtain ⟨Bk, Rk, Sk⟩ := HKp.out _ hK.out
                  by_cases hlt : k < l.length
                  · obtain ⟨_, _, b, off, e1, rfl, hc⟩ := HC.out k hlt
                    simp only [Value.slice.injEq] at e1
                    obtain ⟨rfl, -, rfl⟩ := e1
                    obtain ⟨x1, x2, x3, x4, x5⟩ := HAt'.out k hk
                    obtain ⟨n1, n2, n3, n4, n5⟩ := HAt'.out (k + 1) hlt
                    obtain ⟨y1, y2⟩ := HLe'.out k hlt
                    have hst := HSt.out k hlt
                    have e1 : (T (k + 1)).1 = (T k).1 + wentP r ((T k).2.2 + l.getD k 0) := by rw [hst]; rfl
                    have e2 : (T (k + 1)).2.1 = (T k).2.1 + lostP s r ((T k).2.2 + l.getD k 0) := by rw [hst]; rfl
                    have e3 : (T (k + 1)).2.2 = waitP s r ((T k).2.2 + l.getD k 0) := by rw [hst]; rfl
                    have HF : Hid (∀ u : World, Calls Tryd.prog 11 #[.agg #[.int .i64 s, .int .i64 r, .int .i64 (T k).2.2], .int .i64 (l.getD k 0)] u fun e w' => e = .returned (.tuple #[.agg #[.int .i64 s, .int .i64 r, .int .i64 (waitP s r ((T k).2.2 + l.getD k 0))], .agg #[.int .i64 (wentP r ((T k).2.2 + l.getD k 0)), .int .i64 (lostP s r ((T k).2.2 + l.getD k 0)), .int .i64 (waitP s r ((T k).2.2 + l.getD k 0))]]) ∧ Below u.heap.size u w') := HFl.out _ _ x1 y1 y2
                    rw [e1] at n2 n3
                    rw [e2] at n4 n5
                    generalize wentP r ((T k).2.2 + l.getD k 0) = G1 at *
                    generalize lostP s r ((T k).2.2 + l.getD k 0) = G2 at *
                    generalize waitP s r ((T k).2.2 + l.getD k 0) = G3 at *
                    have E1 : Hid ((T (k + 1)).1 = (T k).1 + G1) := e1
                    have E2 : Hid ((T (k + 1)).2.1 = (T k).2.1 + G2) := e2
                    have E3 : Hid ((T (k + 1)).2.2 = G3) := e3
                    have c0 := hc _ Bk
                    have Hc0 : Hid (∀ u, Below wr.heap.size wr u → u.cell? ⟨b, off + k, none⟩ = some (.int .i64 (l.getD k 0))) := fun u hu => cell_later hu c0
                    clear e1 e2 e3 hst hc n1 x1
                    generalize l.getD k 0 = y at *
                    generalize (T k).1 = X1 at *
                    generalize (T k).2.1 = X2 at *
                    generalize (T k).2.2 = X3 at *
                    have hwp1 : IntKind.i64.wrap (X1 + G1) = X1 + G1 := by rw [IntKind.wrap_i64]; omega
                    have hwp2 : IntKind.i64.wrap (X2 + G2) = X2 + G2 := by rw [IntKind.wrap_i64]; omega
                    have L16 : g16 < wr.heap.size := h16.out.lt
                    have L17 : g17 < wr.heap.size := h17.out.lt
                    have L13 : g13 < wr.heap.size := h13.out.lt
                    have Z19 : Hid (RowAt (wr.alloc (.cells #[.int .i64 0, .int .i64 0, .int .i64 0] 38)) wr.heap.size 38 [.int .i64 0, .int .i64 0, .int .i64 0]) := row_made wr _ _ _ _ rfl rfl
                    have HZ : Hid (∀ u, Below (wr.alloc (.cells #[.int .i64 0, .int .i64 0, .int .i64 0] 38)).heap.size (wr.alloc (.cells #[.int .i64 0, .int .i64 0, .int .i64 0] 38)) u → RowAt u g17 33 [.int .i64 s, .int .i64 r, .int .i64 X3] ∧ RowAt u wr.heap.size 38 [.int .i64 0, .int .i64 0, .int .i64 0] ∧ RowAt u g16 38 [.int .i64 X1, .int .i64 X2, .int .i64 X3] ∧ RowAt u g13 38 [.int .i64 t4, .int .i64 t5, .int .i64 t3] ∧ Below (w.heap.size + 1) W0 u ∧ u.cell? ⟨b, off + k, none⟩ = some (.int .i64 y)) := fun u hu =>
                      ⟨(h17.out.alloc _).later hu (by simp; omega), Z19.out.later hu (by simp), (h16.out.alloc _).later hu (by simp; omega), (h13.out.alloc _).later hu (by simp; omega), Bel.call (hK.out.alloc Sk _) S0 hu, Hc0.out u (((Below.refl _ _).alloc (Nat.le_refl _) _).trans (hu.mono (by simp)))⟩
                    obtain ⟨q1, q2, q3, q4, q5, q6⟩ := HZ.out _ (Below.refl _ _)
                    obtain ⟨u0, u1, u2, _, _, _, _⟩ := q1.three
                    have HSA : Hid (∀ u : World, Below (wr.alloc (.cells #[.int .i64 0, .int .i64 0, .int .i64 0] 38)).heap.size (wr.alloc (.cells #[.int .i64 0, .int .i64 0, .int .i64 0] 38)) u → u.cell? ⟨g17, 0, none⟩ = some (.int .i64 s) ∧ u.cell? ⟨g17, 1, none⟩ = some (.int .i64 r) ∧ u.cell? ⟨g17, 2, none⟩ = some (.int .i64 X3) ∧ u.cell? ⟨b, off + k, none⟩ = some (.int .i64 y)) := fun u hu => by
                      obtain ⟨r1, _, _, _, _, r6⟩ := HZ.out u hu
                      obtain ⟨v0, v1, v2, _⟩ := r1.three
                      exact ⟨v0, v1, v2, r6⟩
                    have P1 : Hid (Below (wr.alloc (.cells #[.int .i64 0, .int .i64 0, .int .i64 0] 38)).heap.size (wr.alloc (.cells #[.int .i64 0, .int .i64 0, .int .i64 0] 38)) (wr.alloc (.cells #[.int .i64 0, .int .i64 0, .int .i64 0] 38)).drew) := (Below.refl _ _).drew
                    clear c0 q2 q3 q4 q5 x2 x3 x4 x5 n2 n3 n4 n5
                    have hne1 : ¬ wr.heap.size = g17 := by omega
                    have hne2 : ¬ wr.heap.size = g16 := by omega
                    have hne3 : ¬ wr.heap.size = g13 := by omega
                    go_upto_region 22 with fail
                    go_cut [86] (fun _ wc => Hid (RowAt wc g17 33 [.int .i64 s, .int .i64 r, .int .i64 G3]) ∧ Hid (RowAt wc wr.heap.size 38 [.int .i64 G1, .int .i64 G2, .int .i64 G3]) ∧ Hid (RowAt wc g16 38 [.int .i64 X1, .int .i64 X2, .int .i64 X3]) ∧ Hid (RowAt wc g13 38 [.int .i64 t4, .int .i64 t5, .int .i64 t3]) ∧ Hid (Below (w.heap.size + 1) W0 wc))
                    case first =>
                      as_aux_lemma =>
                        clear HRn HE3 HC HAt' HLe' HSt HS0 HSl HFl E1 E2 E3 hwp1 hwp2
                        go_region_law (first | (go_simp; refine (HF.out _).mono ?_; rintro e wo ⟨rfl, hwo⟩; have Hbo : Hid (Below (wr.alloc (.cells #[.int .i64 0, .int .i64 0, .int .i64 0] 38)).heap.size (wr.alloc (.cells #[.int .i64 0, .int .i64 0, .int .i64 0] 38)) wo) := Bel.call P1.out (Nat.le_refl _) hwo; obtain ⟨v1, v2, v3, v4, v5, v6⟩ := HZ.out _ Hbo.out; obtain ⟨i0, i1, i2, j0, j1, j2, il⟩ := v1.three; obtain ⟨m0, m1, m2, o0, o1, o2, ol⟩ := v2.three))
                        all_goals
                          have A17 : Hid (RowAt ((((((wo.setCell ⟨g17, 0, none⟩ (.int .i64 s)).setCell ⟨g17, 1, none⟩ (.int .i64 r)).setCell ⟨g17, 2, none⟩ (.int .i64 G3)).setCell ⟨wr.heap.size, 0, none⟩ (.int .i64 G1)).setCell ⟨wr.heap.size, 1, none⟩ (.int .i64 G2)).setCell ⟨wr.heap.size, 2, none⟩ (.int .i64 G3)) g17 33 [.int .i64 s, .int .i64 r, .int .i64 G3]) := (((v1.set3 _ _ _).other (a := ⟨wr.heap.size, 0, none⟩) hne1 _).other (a := ⟨wr.heap.size, 1, none⟩) hne1 _).other (a := ⟨wr.heap.size, 2, none⟩) hne1 _
                          have A19 : Hid (RowAt ((((((wo.setCell ⟨g17, 0, none⟩ (.int .i64 s)).setCell ⟨g17, 1, none⟩ (.int .i64 r)).setCell ⟨g17, 2, none⟩ (.int .i64 G3)).setCell ⟨wr.heap.size, 0, none⟩ (.int .i64 G1)).setCell ⟨wr.heap.size, 1, none⟩ (.int .i64 G2)).setCell ⟨wr.heap.size, 2, none⟩ (.int .i64 G3)) wr.heap.size 38 [.int .i64 G1, .int .i64 G2, .int .i64 G3]) := (((v2.other (a := ⟨g17, 0, none⟩) (fun e => hne1 e.symm) _).other (a := ⟨g17, 1, none⟩) (fun e => hne1 e.symm) _).other (a := ⟨g17, 2, none⟩) (fun e => hne1 e.symm) _).set3 _ _ _
                          have A16 : Hid (RowAt ((((((wo.setCell ⟨g17, 0, none⟩ (.int .i64 s)).setCell ⟨g17, 1, none⟩ (.int .i64 r)).setCell ⟨g17, 2, none⟩ (.int .i64 G3)).setCell ⟨wr.heap.size, 0, none⟩ (.int .i64 G1)).setCell ⟨wr.heap.size, 1, none⟩ (.int .i64 G2)).setCell ⟨wr.heap.size, 2, none⟩ (.int .i64 G3)) g16 38 [.int .i64 X1, .int .i64 X2, .int .i64 X3]) := (((((v3.other (a := ⟨g17, 0, none⟩) M2 _).other (a := ⟨g17, 1, none⟩) M2 _).other (a := ⟨g17, 2, none⟩) M2 _).other (a := ⟨wr.heap.size, 0, none⟩) hne2 _).other (a := ⟨wr.heap.size, 1, none⟩) hne2 _).other (a := ⟨wr.heap.size, 2, none⟩) hne2 _
                          have A13 : Hid (RowAt ((((((wo.setCell ⟨g17, 0, none⟩ (.int .i64 s)).setCell ⟨g17, 1, none⟩ (.int .i64 r)).setCell ⟨g17, 2, none⟩ (.int .i64 G3)).setCell ⟨wr.heap.size, 0, none⟩ (.int .i64 G1)).setCell ⟨wr.heap.size, 1, none⟩ (.int .i64 G2)).setCell ⟨wr.heap.size, 2, none⟩ (.int .i64 G3)) g13 38 [.int .i64 t4, .int .i64 t5, .int .i64 t3]) := (((((v4.other (a := ⟨g17, 0, none⟩) M6 _).other (a := ⟨g17, 1, none⟩) M6 _).other (a := ⟨g17, 2, none⟩) M6 _).other (a := ⟨wr.heap.size, 0, none⟩) hne3 _).other (a := ⟨wr.heap.size, 1, none⟩) hne3 _).other (a := ⟨wr.heap.size, 2, none⟩) hne3 _
                          have AK : Hid (Below (w.heap.size + 1) W0 ((((((wo.setCell ⟨g17, 0, none⟩ (.int .i64 s)).setCell ⟨g17, 1, none⟩ (.int .i64 r)).setCell ⟨g17, 2, none⟩ (.int .i64 G3)).setCell ⟨wr.heap.size, 0, none⟩ (.int .i64 G1)).setCell ⟨wr.heap.size, 1, none⟩ (.int .i64 G2)).setCell ⟨wr.heap.size, 2, none⟩ (.int .i64 G3))) := (((((v5.setCell S17 _).setCell S17 _).setCell S17 _).setCell Sk _).setCell Sk _).setCell Sk _
                          clear hwo i0 i1 i2 j0 j1 j2 il m0 m1 m2 o0 o1 o2 ol v1 v2 v3 v4 v5 v6 Hbo
                          go_wp2_with fail
                          go_meet
                          case rel => exact ⟨A17, A19, A16, A13, AK⟩
                    case rest =>
                      as_aux_lemma =>
                        clear HZ HSA P1 u0 u1 u2 q1 q6 Z19 HF Hc0
                        obtain ⟨w11, rfl⟩ : ∃ x : World, x = wc := ⟨_, rfl⟩
                        obtain ⟨A17, A19, A16, A13, AK⟩ := hcut
                        have hne4 : ¬ g16 = wr.heap.size := fun e => hne2 e.symm
                        obtain ⟨i0, i1, i2, j0, j1, j2, il⟩ := A16.out.three
                        obtain ⟨m0, m1, m2, _, _, _, ol⟩ := A19.out.three
                        have F16 : Hid (RowAt (((w11.setCell ⟨g16, 0, none⟩ (.int .i64 (X1 + G1))).setCell ⟨g16, 1, none⟩ (.int .i64 (X2 + G2))).setCell ⟨g16, 2, none⟩ (.int .i64 G3)) g16 38 [.int .i64 ((T (k + 1)).1), .int .i64 ((T (k + 1)).2.1), .int .i64 ((T (k + 1)).2.2)]) := by
                          rw [E1.out, E2.out, E3.out]
                          exact A16.out.set3 _ _ _
                        have F17 : Hid (RowAt (((w11.setCell ⟨g16, 0, none⟩ (.int .i64 (X1 + G1))).setCell ⟨g16, 1, none⟩ (.int .i64 (X2 + G2))).setCell ⟨g16, 2, none⟩ (.int .i64 G3)) g17 33 [.int .i64 s, .int .i64 r, .int .i64 ((T (k + 1)).2.2)]) := by
                          rw [E3.out]
                          exact ((A17.out.other (a := ⟨g16, 0, none⟩) M1 _).other (a := ⟨g16, 1, none⟩) M1 _).other (a := ⟨g16, 2, none⟩) M1 _
                        have F13 : Hid (RowAt (((w11.setCell ⟨g16, 0, none⟩ (.int .i64 (X1 + G1))).setCell ⟨g16, 1, none⟩ (.int .i64 (X2 + G2))).setCell ⟨g16, 2, none⟩ (.int .i64 G3)) g13 38 [.int .i64 t4, .int .i64 t5, .int .i64 t3]) := ((A13.out.other (a := ⟨g16, 0, none⟩) M5 _).other (a := ⟨g16, 1, none⟩) M5 _).other (a := ⟨g16, 2, none⟩) M5 _
                        have FK : Hid (Below (w.heap.size + 1) W0 (((w11.setCell ⟨g16, 0, none⟩ (.int .i64 (X1 + G1))).setCell ⟨g16, 1, none⟩ (.int .i64 (X2 + G2))).setCell ⟨g16, 2, none⟩ (.int .i64 G3))) := ((AK.out.setCell S16 _).setCell S16 _).setCell S16 _
                        go_wp2
                        go_roundw
                        case rel => exact ⟨k + 1, by omega, by go_num, F16, F17, F13, FK⟩
                        case measure => simp [intOf]; omega
                  · obtain rfl : k = l.length := by omega
                    rw [HSl.out] at h16
                    have H16 : Hid (RowAt wr g16 38 [.int .i64 (okN 0 Z.1), .int .i64 (okN 0 Z.2.1), .int .i64 (okN 0 Z.2.2)]) := by rw [okP_0, okP_0, okP_0]; exact h16
                    clear h16
                    obtain ⟨Bt, Rt, St⟩ := HKp.out _ hK.out
                    obtain ⟨d0, d1, d2, z0, z1, z2, hgz⟩ := Rt.three
                    obtain ⟨Z1, HZ1⟩ : ∃ z, z = okN 0 Z.1 := ⟨_, rfl⟩
                    obtain ⟨Z2, HZ2⟩ : ∃ z, z = okN 0 Z.2.1 := ⟨_, rfl⟩
                    obtain ⟨Z3, HZ3⟩ : ∃ z, z = okN 0 Z.2.2 := ⟨_, rfl⟩
                    rw [← HZ1, ← HZ2, ← HZ3] at H16 HRn
                    clear HZ1 HZ2 HZ3
                    go_wp2_with fail
                    refine (HRn.out _ Bt).mono ?_
                    rintro e w12 ⟨rfl, hw12⟩
                    have K12 : Hid (Below (w.heap.size + 1) W0 w12) := Bel.call hK.out S0 hw12
                    have J16 : Hid (RowAt w12 g16 38 [.int .i64 Z1, .int .i64 Z2, .int .i64 Z3]) := H16.out.later hw12 H16.out.lt
                    have J13 : Hid (RowAt w12 g13 38 [.int .i64 t4, .int .i64 t5, .int .i64 t3]) := h13.out.later hw12 h13.out.lt
                    have J13' : Hid (RowAt (((w12.setCell ⟨g13, 0, none⟩ (.int .i64 Z1)).setCell ⟨g13, 1, none⟩ (.int .i64 Z2)).setCell ⟨g13, 2, none⟩ (.int .i64 Z3)) g13 38 [.int .i64 Z1, .int .i64 Z2, .int .i64 Z3]) := J13.out.set3 _ _ _
                    have J16' : Hid (RowAt (((w12.setCell ⟨g13, 0, none⟩ (.int .i64 Z1)).setCell ⟨g13, 1, none⟩ (.int .i64 Z2)).setCell ⟨g13, 2, none⟩ (.int .i64 Z3)) g16 38 [.int .i64 Z1, .int .i64 Z2, .int .i64 Z3]) := ((J16.out.other (a := ⟨g13, 0, none⟩) M3 _).other (a := ⟨g13, 1, none⟩) M3 _).other (a := ⟨g13, 2, none⟩) M3 _
                    have K13 : Hid (Below (w.heap.size + 1) W0 (((w12.setCell ⟨g13, 0, none⟩ (.int .i64 Z1)).setCell ⟨g13, 1, none⟩ (.int .i64 Z2)).setCell ⟨g13, 2, none⟩ (.int .i64 Z3))) := ((K12.out.setCell S13 _).setCell S13 _).setCell S13 _
                    have B13 : Hid (Below w.heap.size w (((w12.setCell ⟨g13, 0, none⟩ (.int .i64 Z1)).setCell ⟨g13, 1, none⟩ (.int .i64 Z2)).setCell ⟨g13, 2, none⟩ (.int .i64 Z3))) := (HKp.out _ K13.out).1
                    clear hw12 d0 d1 d2 z0 z1 z2 hgz
                    obtain ⟨d0, d1, d2, z0, z1, z2, hgz⟩ := J13.out.three
                    go_wp2_with fail
                    refine (HE3.out _ B13.out).mono ?_
                    rintro e w14 ⟨rfl, hw14⟩
                    have B14 : Hid (Below w.heap.size w w14) := Bel.call B13.out (Nat.le_refl _) hw14
                    have I13 : Hid (RowAt w14 g13 38 [.int .i64 Z1, .int .i64 Z2, .int .i64 Z3]) := J13'.out.later hw14 J13'.out.lt
                    have I16 : Hid (RowAt w14 g16 38 [.int .i64 Z1, .int .i64 Z2, .int .i64 Z3]) := J16'.out.later hw14 J16'.out.lt
                    clear hw14 d0 d1 d2 z0 z1 z2 hgz
                    obtain ⟨d0, d1, d2, _, _, _, hgz⟩ := I13.out.three
                    obtain ⟨f0, f1, f2, _, _, _, hgy⟩ := I16.out.three
                    go_wp2
                    go_ret
                    exact ⟨Ns.ret_bool rfl, B14.out⟩
              · have q : (se == 0) = false := beq_eq_false_iff_ne.2 hse
                clear E16 E17 E13 K9 HFl HAt HLe HSt HS0 HSl
                have E16 : Hid (RowAt ((w8.alloc (.cells #[.int .i64 0, .int .i64 0, .int .i64 0] 38)).alloc (.cells #[.int .i64 s, .int .i64 r, .int .i64 h] 33)) w8.heap.size 38 [.int .i64 0, .int .i64 0, .int .i64 0]) := (row_made w8 _ _ _ _ rfl rfl).alloc _
                have E13 : Hid (RowAt ((w8.alloc (.cells #[.int .i64 0, .int .i64 0, .int .i64 0] 38)).alloc (.cells #[.int .i64 s, .int .i64 r, .int .i64 h] 33)) g13 38 [.int .i64 t4, .int .i64 t5, .int .i64 t3]) := (Q13.out.alloc _).alloc _
                have K9 : Hid (Below (w.heap.size + 1) W0 ((w8.alloc (.cells #[.int .i64 0, .int .i64 0, .int .i64 0] 38)).alloc (.cells #[.int .i64 s, .int .i64 r, .int .i64 h] 33))) := (K8.out.alloc S8 _).alloc (by simp; omega) _
                have E16' : Hid (RowAt ((w8.alloc (.cells #[.int .i64 0, .int .i64 0, .int .i64 0] 38)).alloc (.cells #[.int .i64 s, .int .i64 r, .int .i64 h] 33)) w8.heap.size 38 [.int .i64 (okN se Z.1), .int .i64 (okN se Z.2.1), .int .i64 (okN se Z.2.2)]) := by rw [okP_ne hse, okP_ne hse, okP_ne hse]; exact E16
                have M5 : ¬ w8.heap.size = g13 := by omega
                clear hse E16 HOr HSE HTk HRP HCh HTi HE1 HE2 HP0
                go_wp2
                obtain ⟨g16, hg16⟩ : ∃ g, Hid (w8.heap.size = g) := ⟨_, rfl⟩
                rw [hg16.out] at E16' M5
                have M3 : ¬ g13 = g16 := fun e => M5 e.symm
                have S16 : w.heap.size + 1 ≤ g16 := by have := hg16.out; omega
                rw [hg16.out]
                generalize ((w8.alloc (.cells #[.int .i64 0, .int .i64 0, .int .i64 0] 38)).alloc (.cells #[.int .i64 s, .int .i64 r, .int .i64 h] 33)) = w9 at *
                clear hg16 d0 d1 d2 z0 z1 z2 hgz l13 Q13 R8 B8 S8 K8
                go_loopw [18, 19] (fun s18 _ wr => s18 = .int .i64 0 ∧ Hid (wr = w9)) (fun _ _ _ => 0)
                case atStart => exact ⟨rfl, rfl⟩
                case round =>
                  obtain ⟨rfl, hwr⟩ := hrel
                  obtain rfl := hwr.out
                  have H16 := E16'
                  have h13 := E13
                  have hK := K9
                  clear E16' E13 K9
                  by_cases hl0 : (0 : Int) < (l.length : Int)
                  all_goals
                    obtain ⟨Bt, Rt, St⟩ := HKp.out _ hK.out
                    obtain ⟨d0, d1, d2, z0, z1, z2, hgz⟩ := Rt.three
                    obtain ⟨Z1, HZ1⟩ : ∃ z, z = okN se Z.1 := ⟨_, rfl⟩
                    obtain ⟨Z2, HZ2⟩ : ∃ z, z = okN se Z.2.1 := ⟨_, rfl⟩
                    obtain ⟨Z3, HZ3⟩ : ∃ z, z = okN se Z.2.2 := ⟨_, rfl⟩
                    rw [← HZ1, ← HZ2, ← HZ3] at H16 HRn
                    clear HZ1 HZ2 HZ3
                    go_wp2_with fail
                    refine (HRn.out _ Bt).mono ?_
                    rintro e w12 ⟨rfl, hw12⟩
                    have K12 : Hid (Below (w.heap.size + 1) W0 w12) := Bel.call hK.out S0 hw12
                    have J16 : Hid (RowAt w12 g16 38 [.int .i64 Z1, .int .i64 Z2, .int .i64 Z3]) := H16.out.later hw12 H16.out.lt
                    have J13 : Hid (RowAt w12 g13 38 [.int .i64 t4, .int .i64 t5, .int .i64 t3]) := h13.out.later hw12 h13.out.lt
                    have J13' : Hid (RowAt (((w12.setCell ⟨g13, 0, none⟩ (.int .i64 Z1)).setCell ⟨g13, 1, none⟩ (.int .i64 Z2)).setCell ⟨g13, 2, none⟩ (.int .i64 Z3)) g13 38 [.int .i64 Z1, .int .i64 Z2, .int .i64 Z3]) := J13.out.set3 _ _ _
                    have J16' : Hid (RowAt (((w12.setCell ⟨g13, 0, none⟩ (.int .i64 Z1)).setCell ⟨g13, 1, none⟩ (.int .i64 Z2)).setCell ⟨g13, 2, none⟩ (.int .i64 Z3)) g16 38 [.int .i64 Z1, .int .i64 Z2, .int .i64 Z3]) := ((J16.out.other (a := ⟨g13, 0, none⟩) M3 _).other (a := ⟨g13, 1, none⟩) M3 _).other (a := ⟨g13, 2, none⟩) M3 _
                    have K13 : Hid (Below (w.heap.size + 1) W0 (((w12.setCell ⟨g13, 0, none⟩ (.int .i64 Z1)).setCell ⟨g13, 1, none⟩ (.int .i64 Z2)).setCell ⟨g13, 2, none⟩ (.int .i64 Z3))) := ((K12.out.setCell S13 _).setCell S13 _).setCell S13 _
                    have B13 : Hid (Below w.heap.size w (((w12.setCell ⟨g13, 0, none⟩ (.int .i64 Z1)).setCell ⟨g13, 1, none⟩ (.int .i64 Z2)).setCell ⟨g13, 2, none⟩ (.int .i64 Z3))) := (HKp.out _ K13.out).1
                    clear hw12 d0 d1 d2 z0 z1 z2 hgz
                    obtain ⟨d0, d1, d2, z0, z1, z2, hgz⟩ := J13.out.three
                    go_wp2_with fail
                    refine (HE3.out _ B13.out).mono ?_
                    rintro e w14 ⟨rfl, hw14⟩
                    have B14 : Hid (Below w.heap.size w w14) := Bel.call B13.out (Nat.le_refl _) hw14
                    have I13 : Hid (RowAt w14 g13 38 [.int .i64 Z1, .int .i64 Z2, .int .i64 Z3]) := J13'.out.later hw14 J13'.out.lt
                    have I16 : Hid (RowAt w14 g16 38 [.int .i64 Z1, .int .i64 Z2, .int .i64 Z3]) := J16'.out.later hw14 J16'.out.lt
                    clear hw14 d0 d1 d2 z0 z1 z2 hgz
                    obtain ⟨d0, d1, d2, _, _, _, hgz⟩ := I13.out.three
                    obtain ⟨f0, f1, f2, _, _, _, hgy⟩ := I16.out.three
                    go_wp2
                    go_ret
                    exact ⟨Ns.ret_bool rfl, B14.out⟩
end Ev
end Go.Proofs.YtoahbapdcghokafDoor
