/- Package load's over: the rates of the flows over a link, added up flow by flow. -/
import Derived.Test.YtdldgefahgojaakGreatDoorLoadA
namespace Go.Proofs.YtdldgefahgojaakGreatDoor
namespace Ld
open Go.RowKit Fr Ns
set_option linter.unusedSimpArgs false
set_option linter.unusedVariables false

/-- a block of two cells -/
theorem pair_at {w : World} {g : Nat} {x y : Value} {T : TypeId} (h : w.heap[g]? = some (.cells #[x, y] T (0, 0))) :
    w.cell? ⟨g, 0, none⟩ = some x ∧ w.cell? ⟨g, 1, none⟩ = some y ∧ w.frozen? ⟨g, 0, none⟩ = false ∧ w.frozen? ⟨g, 1, none⟩ = false :=
  ⟨by rw [cell_of_row w g 0 _ T (0, 0) h]; rfl, by rw [cell_of_row w g 1 _ T (0, 0) h]; rfl, frozen_of_row w g 0 _ T h, frozen_of_row w g 1 _ T h⟩
theorem pair_set {w : World} {g : Nat} {x y x' y' : Value} {T : TypeId} (h : w.heap[g]? = some (.cells #[x, y] T (0, 0))) :
    ((w.setCell ⟨g, 0, none⟩ x').setCell ⟨g, 1, none⟩ y').heap[g]? = some (.cells #[x', y'] T (0, 0)) := by
  have h1 := heap_setCell_same w g 0 _ T x' h
  have h2 := heap_setCell_same _ g 1 _ T y' h1
  simpa using h2
theorem addUp_append' (r : List (Int × Int)) : ∀ (a b : List Int) (s : Int × Int), addUp r (a ++ b) s = (addUp r a s).bind (addUp r b) := by
  intro a
  induction a with
  | nil => intro b s; rfl
  | cons u us ih =>
    intro b s
    simp only [List.cons_append, addUp]
    split
    · exact ih _ _
    · rfl
theorem addUp_stop {r : List (Int × Int)} {us : List Int} {s t : Int × Int} {j : Nat} (hj : j < us.length) (h : addUp r (us.take j) s = some t) (hb : mayP (sumP t (r.getD (us.getD j 0).toNat (0, 1))) = false) : addUp r us s = none := by
  have e : us = us.take (j + 1) ++ us.drop (j + 1) := (List.take_append_drop _ _).symm
  rw [e, addUp_append', take_snoc us j hj 0, addUp_snoc, h]
  simp only [Option.bind_some]
  rw [if_neg (by rw [hb]; decide)]
  rfl
theorem addUp_go {r : List (Int × Int)} {us : List Int} {s t : Int × Int} {j : Nat} (hj : j < us.length) (h : addUp r (us.take j) s = some t) (hb : mayP (sumP t (r.getD (us.getD j 0).toNat (0, 1))) = true) : addUp r (us.take (j + 1)) s = some (sumP t (r.getD (us.getD j 0).toNat (0, 1))) := by
  rw [take_snoc us j hj 0, addUp_snoc, h]
  simp only [Option.bind_some]
  rw [if_pos hb]

/-- what over gives back: the sum, or that it is too much -/
def overV : Option (Int × Int) → Value
  | some s => .tuple #[.agg #[.int .i64 s.1, .int .i64 s.2], .nilIface]
  | none => .tuple #[.agg #[.int .i64 0, .int .i64 0], .iface 55 (.int .i64 4)]

set_option maxRecDepth 100000 in
set_option maxHeartbeats 4000000 in
theorem over_any {Q : Nat → Prop} (caps : List Int) (paths : List (List Int)) (r : List (Int × Int)) (l : Nat) (v x : Value) (w : World) (h : NetAt Q w v caps paths) (hx : FracsAt Q w x r)
    (he : netE caps paths = 0) (hl : r.length = paths.length) (hr : ratesE r = 0) (hlt : l < caps.length) :
    Calls Tryz.prog 45 #[v, x, .int .i64 l] w fun e w' => e = .returned (overV (loadOf paths r l)) ∧ Below w.heap.size w w' := by
  have HU : Hid (∀ u : World, Below w.heap.size w u → Calls Tryz.prog 61 #[v, .int .i64 l] u fun e w' => ∃ x, e = .returned (.tuple #[x, .nilIface]) ∧ IntsAt (fun b => u.heap.size ≤ b) w' x (users paths l) ∧ Below u.heap.size u w') := fun u hu => by
    have := users_said Q caps paths l v u (h.later hu)
    rw [show usersE caps paths l = 0 by rw [usersE, if_pos he, if_neg (by omega)]] at this
    exact this
  have HR : Hid (∀ i, i < r.length → ∃ b off, ∃ cap, x = .slice (some ⟨b, off, none⟩) r.length cap ∧ ∀ u, Below w.heap.size w u → u.cell? ⟨b, off + i * 2, none⟩ = some (.int .i64 (r.getD i (0, 0)).1) ∧ u.cell? ⟨b, off + i * 2 + 1, none⟩ = some (.int .i64 (r.getD i (0, 0)).2)) := by
    intro i hi
    obtain ⟨a, cap, e, _, hc⟩ := hx
    rcases hc with rfl | ⟨b, off, rfl, hc, _⟩
    · simp at hi
    · exact ⟨b, off, cap, e, fun u hu => ⟨cell_later hu (hc i hi).1, cell_later hu (hc i hi).2⟩⟩
  obtain ⟨v1, v2, rfl, h1, h2⟩ := h
  obtain ⟨a1, cap1, rfl, ⟨hm1, hn1⟩, _⟩ := h1
  obtain ⟨a2, cap2, rfl, ⟨hm2, hn2⟩, _⟩ := h2
  obtain ⟨ar, capr, rfl, ⟨hm3, hn3⟩, _⟩ := hx
  have HRt : Hid (ratesE r = 0) := hr
  have HLo : Hid (loadOf paths r l = addUp r (users paths l) (0, 1)) := rfl
  have HUm : Hid (∀ u ∈ users paths l, 0 ≤ u ∧ u < r.length) := fun u hu => by have := users_mem hu; omega
  have hul : (users paths l).length ≤ 6 := by have := users_length (l : Int) 0 paths; have := netE_0 he; unfold users; omega
  have hr6 : r.length ≤ 6 := by have := netE_0 he; omega
  generalize loadOf paths r l = LO at *
  generalize users paths l = us at *
  replace HU : Hid (∀ u : World, Below w.heap.size w u → Calls Tryz.prog 61 #[.agg #[.slice a1 caps.length cap1, .slice a2 paths.length cap2], .int .i64 l] u fun e w' => ∃ x, e = .returned (.tuple #[x, .nilIface]) ∧ IntsAt (fun b => u.heap.size ≤ b) w' x us ∧ Below u.heap.size u w') := HU
  have HBW : Hid (∀ u, Below (w.heap.size + 1 + 1) ((w.alloc (.cells #[.slice a1 caps.length cap1, .slice a2 paths.length cap2] 37)).alloc (.cells #[.int .i64 0, .int .i64 0] 50)) u → Below w.heap.size w u) := fun u hu => (((Below.refl _ _).alloc (Nat.le_refl _) _).alloc (by simp) _).trans (hu.mono (by omega))
  have HCW : Hid (∀ u, Below (w.heap.size + 1 + 1) ((w.alloc (.cells #[.slice a1 caps.length cap1, .slice a2 paths.length cap2] 37)).alloc (.cells #[.int .i64 0, .int .i64 0] 50)) u → u.heap[w.heap.size + 1]? = some (.cells #[.int .i64 0, .int .i64 0] 50 (0, 0)) ∧ w.heap.size + 1 + 1 ≤ u.heap.size) := fun u hu =>
    ⟨(hu.block (w.heap.size + 1) (by omega)).trans (by have := heap_alloc_new (w.alloc (.cells #[.slice a1 caps.length cap1, .slice a2 paths.length cap2] 37)) (.cells #[.int .i64 0, .int .i64 0] 50); simpa using this), by have := hu.size; simpa using this⟩
  have HW0 : Hid (∀ u : World, Calls Tryz.prog 49 #[.int .i64 0] u fun e w' => e = .returned (.agg #[.int .i64 0, .int .i64 1]) ∧ Below u.heap.size u w') := fun u => LWhole_any 0 u
  clear he hl hr
  go_enter Tryz.func45, Tryz.ntmps45
  go_wp2_with fail
  refine (HU.out _ (HBW.out _ (Below.refl _ _))).mono ?_
  rintro e w1 ⟨xu, rfl, hxu, hw1⟩
  have HC1 : Hid (Below (w.heap.size + 1 + 1) ((w.alloc (.cells #[.slice a1 caps.length cap1, .slice a2 paths.length cap2] 37)).alloc (.cells #[.int .i64 0, .int .i64 0] 50)) w1) := hw1.mono (by simp)
  have HX1 : Hid (IntsAt (fun b => b < w1.heap.size) w1 xu us) := hxu.keep (fun _ _ _ => rfl) (fun b hb hb' => hb')
  obtain ⟨au, capu, rfl, ⟨hmu, hnu⟩, _⟩ := hxu
  clear hw1
  go_wp2_with fail
  refine (HW0.out _).mono ?_
  rintro e w2 ⟨rfl, hw2⟩
  have HC2 : Hid (Below (w.heap.size + 1 + 1) ((w.alloc (.cells #[.slice a1 caps.length cap1, .slice a2 paths.length cap2] 37)).alloc (.cells #[.int .i64 0, .int .i64 0] 50)) w2) := HC1.out.trans (hw2.mono (HCW.out _ HC1.out).2)
  have HX2 : Hid (∀ i, i < us.length → ∃ b off, au = some ⟨b, off, none⟩ ∧ ∀ u, Below w2.heap.size w2 u → u.cell? ⟨b, off + i, none⟩ = some (.int .i64 (us.getD i 0))) := by
    intro i hi
    obtain ⟨_, _, e, _, hc⟩ := HX1.out.later hw2
    simp only [Value.slice.injEq] at e
    obtain ⟨rfl, _, rfl⟩ := e
    rcases hc with rfl | ⟨b, off, rfl, hc, _⟩
    · simp at hi
    · exact ⟨b, off, rfl, fun u hu => cell_later hu (hc i hi)⟩
  have HI2 : Hid ((w2.alloc (.cells #[.int .i64 0, .int .i64 1] 50)).heap[w2.heap.size]? = some (.cells #[.int .i64 0, .int .i64 1] 50 (0, 0)) ∧ Below w2.heap.size w2 (w2.alloc (.cells #[.int .i64 0, .int .i64 1] 50))) := ⟨heap_alloc_new w2 _, (Below.refl _ _).alloc (Nat.le_refl _) _⟩
  clear hw2
  go_wp2
  go_loopw [9, 12, 26] (fun _ _ i wr => ∃ (j : Nat) (s : Int × Int), j ≤ us.length ∧ i = .int .i64 j ∧ Hid (wr.heap[w2.heap.size]? = some (.cells #[.int .i64 s.1, .int .i64 s.2] 50 (0, 0)) ∧ Below w2.heap.size w2 wr) ∧ Hid (addUp r (us.take j) (0, 1) = some s)) (fun _ _ i _ => us.length - (intOf i).toNat)
  case atStart => exact ⟨0, (0, 1), by omega, rfl, HI2, rfl⟩
  case round =>
    obtain ⟨j, s, hj, rfl, hI, hA⟩ := hrel
    obtain ⟨m0, m1, f0, f1⟩ := pair_at hI.out.1
    have hS : w2.heap.size < wr.heap.size := (Array.getElem?_eq_some_iff.1 hI.out.1).1
    have HC4 : Hid (Below (w.heap.size + 1 + 1) ((w.alloc (.cells #[.slice a1 caps.length cap1, .slice a2 paths.length cap2] 37)).alloc (.cells #[.int .i64 0, .int .i64 0] 50)) wr) := HC2.out.trans (hI.out.2.mono (HCW.out _ HC2.out).2)
    by_cases hlt3 : j < us.length
    · have hum := HUm.out _ (getD_mem us j hlt3 0)
      obtain ⟨m, hm⟩ : ∃ m : Nat, us.getD j 0 = m := ⟨(us.getD j 0).toNat, by omega⟩
      obtain ⟨bu, ou, rfl, hcu⟩ := HX2.out j hlt3
      have cu : wr.cell? ⟨bu, ou + j, none⟩ = some (.int .i64 m) := by rw [hcu _ hI.out.2, hm]
      have hmr : m < r.length := by omega
      obtain ⟨b, off, cap, e, hc⟩ := HR.out m hmr
      simp only [Value.slice.injEq] at e
      obtain ⟨rfl, _, rfl⟩ := e
      obtain ⟨c1, c2⟩ := hc _ (HBW.out _ HC4.out)
      have fs : faultP s = 0 := addUp_fault HRt.out _ _ _ (by decide) hA.out
      have fr : faultP (r.getD m (0, 0)) = 0 := (ratesE_iff r).1 HRt.out _ (getD_mem r m hmr _)
      have hg : r.getD (us.getD j 0).toNat (0, 1) = r.getD m (0, 0) := by
        rw [hm]
        simp [List.getD, List.getElem?_eq_getElem hmr]
      cases hmay : mayP (sumP s (r.getD m (0, 0))) with
      | true =>
        have HA' : Hid (addUp r (us.take (j + 1)) (0, 1) = some (sumP s (r.getD m (0, 0)))) := by
          have := addUp_go hlt3 hA.out (by rw [hg]; exact hmay)
          rw [hg] at this
          exact this
        have HAdd := (show Hid (∀ u : World, _) from fun u => Add_may fs fr hmay u)
        generalize sumP s (r.getD m (0, 0)) = s' at *
        generalize (r.getD m (0, 0)).1 = t at *
        generalize (r.getD m (0, 0)).2 = bo at *
        obtain ⟨s1, s2⟩ := s
        obtain ⟨x', y'⟩ := s'
        simp only at *
        clear fs fr hg hcu hc hum hm hmay
        go_wp2_with fail
        go_region_law (go_simp; refine (HAdd.out _).mono ?_; rintro e w4 ⟨rfl, hw4⟩; obtain ⟨m0', m1', f0', f1'⟩ := pair_at ((hw4.block w2.heap.size (by simpa using hS)).trans hI.out.1))
        all_goals
          have hb4 : Below wr.heap.size wr w4 := (Below.refl _ wr).drew.trans (hw4.mono (by simp))
          have HI6 : Hid (((w4.setCell ⟨w2.heap.size, 0, none⟩ (.int .i64 x')).setCell ⟨w2.heap.size, 1, none⟩ (.int .i64 y')).heap[w2.heap.size]? = some (.cells #[.int .i64 x', .int .i64 y'] 50 (0, 0)) ∧ Below w2.heap.size w2 ((w4.setCell ⟨w2.heap.size, 0, none⟩ (.int .i64 x')).setCell ⟨w2.heap.size, 1, none⟩ (.int .i64 y'))) :=
            ⟨pair_set ((hb4.block _ hS).trans hI.out.1), ((hI.out.2.trans (hb4.mono (by omega))).setCell (by simp) _).setCell (by simp) _⟩
          clear hw4 hb4
          go_wp2
          go_roundw
          case rel => exact ⟨j + 1, (x', y'), by omega, by go_num, HI6, HA'⟩
          case measure => simp [intOf]; omega
      | false =>
        have HL4 : Hid (LO = none) := by
          show _ = _
          rw [HLo.out]
          exact addUp_stop hlt3 hA.out (by rw [hg]; exact hmay)
        have HAdd := (show Hid (∀ u : World, _) from fun u => Add_big fs fr hmay u)
        generalize sumP s (r.getD m (0, 0)) = s' at *
        generalize (r.getD m (0, 0)).1 = t at *
        generalize (r.getD m (0, 0)).2 = bo at *
        obtain ⟨s1, s2⟩ := s
        obtain ⟨x', y'⟩ := s'
        simp only at *
        clear fs fr hg hcu hc hum hm hmay
        have hz2 := (HCW.out _ HC2.out).2
        obtain ⟨r0, r1, q0, q1⟩ := pair_at (HCW.out _ HC4.out).1
        go_wp2_with fail
        go_region_law (go_simp; refine (HAdd.out _).mono ?_; rintro e w4 ⟨rfl, hw4⟩; obtain ⟨m0', m1', f0', f1'⟩ := pair_at ((hw4.block w2.heap.size (by simpa using hS)).trans hI.out.1))
        all_goals
          have hb4 : Below wr.heap.size wr w4 := (Below.refl _ wr).drew.trans (hw4.mono (by simp))
          have hC5 : Below (w.heap.size + 1 + 1) ((w.alloc (.cells #[.slice a1 caps.length cap1, .slice (a2) paths.length cap2] 37)).alloc (.cells #[.int .i64 0, .int .i64 0] 50)) ((w4.setCell ⟨w2.heap.size, 0, none⟩ (.int .i64 0)).setCell ⟨w2.heap.size, 1, none⟩ (.int .i64 0)) := ((HC4.out.trans (hb4.mono (by omega))).setCell (by simp; omega) _).setCell (by simp; omega) _
          obtain ⟨r0', r1', q0', q1'⟩ := pair_at (HCW.out _ hC5).1
          have HB5 : Hid (Below w.heap.size w ((w4.setCell ⟨w2.heap.size, 0, none⟩ (.int .i64 0)).setCell ⟨w2.heap.size, 1, none⟩ (.int .i64 0))) := HBW.out _ hC5
          clear hw4 hb4 hC5
          generalize (w4.setCell ⟨w2.heap.size, 0, none⟩ (.int .i64 0)).setCell ⟨w2.heap.size, 1, none⟩ (.int .i64 0) = w5 at *
          go_wp2
          refine bodyPost_ret (v := .tuple #[.agg #[.int .i64 0, .int .i64 0], .iface 55 (.int .i64 4)]) (by simp [results, Tryz.results45, go_sem, r0', r1']) rfl ⟨by rw [HL4.out]; rfl, ?_⟩
          repeat (first | exact HB5.out | refine Below.setCell ?_ (by simp) _)
    · obtain rfl : j = us.length := by omega
      have HL5 : Hid (LO = some s) := by
        show _ = _
        have := hA.out
        rw [List.take_of_length_le (Nat.le_refl _)] at this
        rw [HLo.out]; exact this
      obtain ⟨r0, r1, q0, q1⟩ := pair_at (HCW.out _ HC4.out).1
      obtain ⟨s1, s2⟩ := s
      simp only at *
      have hz2 := (HCW.out _ HC2.out).2
      go_wp2
      refine bodyPost_ret (v := .tuple #[.agg #[.int .i64 s1, .int .i64 s2], .nilIface]) (by simp [results, Tryz.results45, go_sem, r0, r1]) rfl ⟨by rw [HL5.out]; rfl, ?_⟩
      have HB5 := HBW.out _ HC4.out
      repeat (first | exact HB5 | refine Below.setCell ?_ (by simp) _)
end Ld
end Go.Proofs.YtdldgefahgojaakGreatDoor
