/- The document's Load (package fairref1) of a net that is right and as many rates. -/
import Derived.Test.YtdegbfgnbobgoacDoorRLoad
namespace Go.Proofs.YtdegbfgnbobgoacDoor
namespace Ld
open Go.RowKit Fr Ns
set_option linter.unusedSimpArgs false
set_option linter.unusedVariables false

theorem addUp_append (r : List (Int × Int)) : ∀ (a b : List Int) (s : Int × Int), addUp r (a ++ b) s = (addUp r a s).bind (addUp r b) := by
  intro a
  induction a with
  | nil => intro b s; rfl
  | cons u us ih =>
    intro b s
    simp only [List.cons_append, addUp]
    split
    · exact ih _ _
    · rfl
/-- a row of the call's own behind a contract -/
theorem ownsRow_below {w w' : World} {B base : Nat} {e : TypeId} {size n : Nat} {v : Value} {xs : List Value} (hb : Below B w w') (hB : w.heap.size ≤ B) (h : w.ownsRow base e size v n xs) : w'.ownsRow base e size v n xs := by
  refine ⟨h.1, ?_⟩
  rcases h.2 with h' | ⟨g', cap', cur, h', hg, hc, r⟩
  · exact .inl h'
  · have hlt : g' < w.heap.size := (Array.getElem?_eq_some_iff.1 hc).1
    exact .inr ⟨g', cap', cur, h', hg, by rw [hb.block g' (by omega)]; exact hc, r⟩
theorem loadE_big {caps : List Int} {paths : List (List Int)} {r : List (Int × Int)} (h1 : netE caps paths = 0) (h2 : r.length = paths.length) (h3 : ratesE r = 0) {l : Nat} (hl : l < caps.length) (h : loadOf paths r l = none) : loadE caps paths r = 4 := by
  rw [loadE, if_pos h1, if_pos h2, if_pos h3, if_neg]
  intro ha
  obtain ⟨s, hs⟩ := allOk_at ha hl
  rw [h] at hs
  cases hs
theorem addUp_none {r : List (Int × Int)} {us : List Int} {s t : Int × Int} {j : Nat} (hj : j < us.length) (h : addUp r (us.take j) s = some t) (hb : mayP (sumP t (r.getD (us.getD j 0).toNat (0, 1))) = false) : addUp r us s = none := by
  have e : us = us.take (j + 1) ++ us.drop (j + 1) := (List.take_append_drop _ _).symm
  rw [e, addUp_append, take_snoc us j hj 0, addUp_snoc, h]
  simp only [Option.bind_some]
  rw [if_neg (by rw [hb]; decide)]
  rfl
theorem addUp_step {r : List (Int × Int)} {us : List Int} {s t : Int × Int} {j : Nat} (hj : j < us.length) (h : addUp r (us.take j) s = some t) (hb : mayP (sumP t (r.getD (us.getD j 0).toNat (0, 1))) = true) : addUp r (us.take (j + 1)) s = some (sumP t (r.getD (us.getD j 0).toNat (0, 1))) := by
  rw [take_snoc us j hj 0, addUp_snoc, h]
  simp only [Option.bind_some]
  rw [if_pos hb]

/-- behind the sum's store, and the look whether it is too much -/
theorem load_stored {w2 wr w4 w6 : World} {a b x y xu : Value} {T : TypeId} {us : List Int} (hI : wr.heap[w2.heap.size]? = some (.cells #[a, b] T (0, 0)) ∧ Below w2.heap.size w2 wr ∧ IntsAt (fun b => w2.heap.size < b) wr xu us) (hw4 : Below wr.drew.heap.size wr.drew w4)
    (hw6 : Below ((w4.setCell ⟨w2.heap.size, 0, none⟩ x).setCell ⟨w2.heap.size, 1, none⟩ y).heap.size ((w4.setCell ⟨w2.heap.size, 0, none⟩ x).setCell ⟨w2.heap.size, 1, none⟩ y) w6) :
    w6.heap[w2.heap.size]? = some (.cells #[x, y] T (0, 0)) ∧ Below w2.heap.size w2 w6 ∧ IntsAt (fun b => w2.heap.size < b) w6 xu us := by
  have hlt : w2.heap.size < wr.heap.size := (Array.getElem?_eq_some_iff.1 hI.1).1
  have b4 : Below wr.heap.size wr w4 := (Below.refl _ wr).drew.trans (hw4.mono (by simp))
  have h4 := (b4.block _ hlt).trans hI.1
  have h5 := two_set (x' := x) (y' := y) h4
  have l5 := (Array.getElem?_eq_some_iff.1 h5).1
  refine ⟨(hw6.block _ l5).trans h5, ?_, ?_⟩
  · have b5 : Below w2.heap.size w2 ((w4.setCell ⟨w2.heap.size, 0, none⟩ x).setCell ⟨w2.heap.size, 1, none⟩ y) := ((hI.2.1.trans (b4.mono (by omega))).setCell (by simp) _).setCell (by simp) _
    exact b5.trans (hw6.mono (by omega))
  · exact ((hI.2.2.later b4).keep (fun b hb _ => (Below.heap_setCell _ _ _ _ (by simp; omega)).trans (Below.heap_setCell _ _ _ _ (by simp; omega))) (fun b hb _ => hb)).later hw6

set_option maxRecDepth 100000 in
set_option maxHeartbeats 8000000 in
theorem RLoad_main {Q : Nat → Prop} (caps : List Int) (paths : List (List Int)) (r : List (Int × Int)) (v x : Value) (w : World) (h : NetAt Q w v caps paths) (hx : FracsAt Q w x r) (he : netE caps paths = 0) (hl : r.length = paths.length) :
    Calls Tryd.prog 4 #[v, x] w fun e w' => ∃ y, e = .returned (.tuple #[y, .int .i64 (loadE caps paths r)]) ∧ FracsAt (fun b => w.heap.size ≤ b) w' y (okL (loadE caps paths r) (loadL paths r caps.length)) ∧ Below w.heap.size w w' := by
  have HN : Hid (∀ u, Below w.heap.size w u → Calls Tryd.prog 14 #[v] u fun e w' => e = .returned (.int .i64 0) ∧ Below u.heap.size u w') := fun u hu => by
    have := RNet_any caps paths v u (h.later hu)
    rw [he] at this
    exact this
  have h0 := netE_0 he
  have HU : Hid (∀ (l : Nat) (u : World), Below w.heap.size w u → Calls Tryd.prog 17 #[v, .int .i64 l] u fun e w' => ∃ x, e = .returned x ∧ IntsAt (fun b => u.heap.size ≤ b) w' x (users paths l) ∧ Below u.heap.size u w') := fun l u hu => RUsers_any caps paths l v u (h.later hu) (by omega)
  have HR : Hid (∀ i, i < r.length → ∃ b off, ∃ cap, x = .slice (some ⟨b, off, none⟩) r.length cap ∧ ∀ u, Below w.heap.size w u → u.cell? ⟨b, off + i * 2, none⟩ = some (.int .i64 (r.getD i (0, 0)).1) ∧ u.cell? ⟨b, off + i * 2 + 1, none⟩ = some (.int .i64 (r.getD i (0, 0)).2)) := by
    intro i hi
    obtain ⟨a, cap, e, _, hc⟩ := hx
    rcases hc with rfl | ⟨b, off, rfl, hc, _⟩
    · simp at hi
    · exact ⟨b, off, cap, e, fun u hu => ⟨cell_later hu (hc i hi).1, cell_later hu (hc i hi).2⟩⟩
  obtain ⟨v1, v2, rfl, h1, h2⟩ := h
  obtain ⟨a1, cap1, rfl, ⟨hm1, hn1⟩, _⟩ := h1
  obtain ⟨a2, cap2, rfl, ⟨hm2, hn2⟩, _⟩ := h2
  obtain ⟨ar, capr, rfl, ⟨hm3, hn3⟩, _⟩ := hx
  have HE : Hid (netE caps paths = 0 ∧ r.length = paths.length) := ⟨he, hl⟩
  have q : ((r.length : Int) != (paths.length : Int)) = false := by rw [hl]; simp
  have hc6 : caps.length ≤ 6 := h0.2.1
  have hr6 : r.length ≤ 6 := by omega
  have hc0 : 0 < caps.length := h0.1
  have HBW : Hid (∀ u, Below (w.heap.size + 1) (w.alloc (.cells #[.slice a1 caps.length cap1, .slice a2 paths.length cap2] 25)) u → Below w.heap.size w u) := fun u hu => ((Below.refl _ _).alloc (Nat.le_refl _) _).trans (hu.mono (by omega))
  have HCW : Hid (∀ u, Below (w.heap.size + 1) (w.alloc (.cells #[.slice a1 caps.length cap1, .slice a2 paths.length cap2] 25)) u → u.cell? ⟨w.heap.size, 0, none⟩ = some (.slice a1 caps.length cap1) ∧ u.cell? ⟨w.heap.size, 1, none⟩ = some (.slice a2 paths.length cap2) ∧ w.heap.size + 1 ≤ u.heap.size) := fun u hu =>
    ⟨(hu.cell (p := ⟨w.heap.size, 0, none⟩) (by simp)).trans (by simp), (hu.cell (p := ⟨w.heap.size, 1, none⟩) (by simp)).trans (by simp), by have := hu.size; simpa using this⟩
  clear he hl h0
  obtain ⟨i0, hi, hz0, hz1, hz2⟩ := info_parts infoFrac
  go_enter Tryd.func4, Tryd.ntmps4
  go_wp2_with fail
  refine (HN.out _ ((Below.refl _ _).alloc (Nat.le_refl _) _)).mono ?_
  rintro e w1 ⟨rfl, hw1⟩
  have HC1 : Hid (Below (w.heap.size + 1) (w.alloc (.cells #[.slice a1 caps.length cap1, .slice a2 paths.length cap2] 25)) w1) := hw1.mono (by simp)
  obtain ⟨g0, g1, z1⟩ := HCW.out _ HC1.out
  clear hw1
  go_wp2
  go_loopw [6, 7] (fun e i wr => ∃ (k : Nat) (ev : Int), k ≤ r.length ∧ i = .int .i64 k ∧ e = .int .i64 ev ∧ Hid (Below (w.heap.size + 1) (w.alloc (.cells #[.slice a1 caps.length cap1, .slice a2 paths.length cap2] 25)) wr) ∧ Hid ((ev = 0 ∧ ratesE r = ratesE (r.drop k)) ∨ (ev ≠ 0 ∧ ratesE r = ev))) (fun _ i _ => r.length - (intOf i).toNat)
  case atStart => exact ⟨0, 0, by omega, rfl, rfl, HC1, .inl ⟨rfl, rfl⟩⟩
  case round =>
    obtain ⟨k, ev, hk, rfl, rfl, hbel, hn⟩ := hrel
    clear g0 g1 z1
    obtain ⟨g0, g1, z1⟩ := HCW.out _ hbel.out
    by_cases hev : ev = 0
    · subst hev
      have hn' : ratesE r = ratesE (r.drop k) := by
        rcases hn.out with h | h
        · exact h.2
        · exact absurd rfl h.1
      by_cases hlt : k < r.length
      · obtain ⟨b, off, cap, e, hc⟩ := HR.out k hlt
        simp only [Value.slice.injEq] at e
        obtain ⟨rfl, _, rfl⟩ := e
        obtain ⟨c1, c2⟩ := hc _ (HBW.out _ hbel.out)
        have hs := ratesE_cons r k hlt
        have HN2 : Hid ((fault (r.getD k (0, 0)).1 (r.getD k (0, 0)).2 = 0 ∧ ratesE r = ratesE (r.drop (k + 1))) ∨ (fault (r.getD k (0, 0)).1 (r.getD k (0, 0)).2 ≠ 0 ∧ ratesE r = fault (r.getD k (0, 0)).1 (r.getD k (0, 0)).2)) := by
          by_cases hf : faultP (r.getD k (0, 0)) = 0
          · exact .inl ⟨hf, by rw [hn', hs, if_pos hf]⟩
          · exact .inr ⟨hf, by rw [hn', hs, if_neg hf]; rfl⟩
        have HF : Hid (∀ u, Calls Tryd.prog 15 #[.agg #[.int .i64 (r.getD k (0, 0)).1, .int .i64 (r.getD k (0, 0)).2]] u fun e w' => e = .returned (.int .i64 (fault (r.getD k (0, 0)).1 (r.getD k (0, 0)).2)) ∧ Below u.heap.size u w') := fun u => RFrac_any _ _ u
        generalize fault (r.getD k (0, 0)).1 (r.getD k (0, 0)).2 = fk at *
        generalize (r.getD k (0, 0)).1 = t at *
        generalize (r.getD k (0, 0)).2 = bo at *
        clear hs hn' hc
        go_wp2_with fail
        refine (HF.out _).mono ?_
        rintro e w2 ⟨rfl, hw2⟩
        have HC2 : Hid (Below (w.heap.size + 1) (w.alloc (.cells #[.slice a1 caps.length cap1, .slice a2 paths.length cap2] 25)) w2) := hbel.out.trans (hw2.mono z1)
        clear hw2
        go_wp2
        go_roundw
        case rel => exact ⟨k + 1, fk, by omega, by go_num, rfl, HC2, HN2⟩
        case measure => simp [intOf]; omega
      · have HRt : Hid (ratesE r = 0) := by show _ = _; rw [hn', List.drop_of_length_le (by omega)]; rfl
        clear hn'
        go_wp2
        go_loopw [8, 9] (fun o i wr => ∃ l : Nat, l ≤ caps.length ∧ i = .int .i64 l ∧ Hid (wr.ownsRow (w.heap.size + 1) 47 2 o l (flat (loadL paths r l))) ∧ Hid (Below (w.heap.size + 1) (w.alloc (.cells #[.slice a1 caps.length cap1, .slice a2 paths.length cap2] 25)) wr) ∧ Hid (allOk paths r l = true)) (fun _ i _ => caps.length - (intOf i).toNat)
        case atStart => exact ⟨0, by omega, rfl, World.ownsRow_nil _ _ _ _, hbel, rfl⟩
        case round =>
          obtain ⟨l, hl, rfl, hown, hbel2, hok⟩ := hrel
          clear g0 g1 z1
          obtain ⟨g0, g1, z1⟩ := HCW.out _ hbel2.out
          by_cases hlt2 : l < caps.length
          · have HW0 : Hid (∀ u : World, Calls Tryd.prog 16 #[.int .i64 0] u fun e w' => e = .returned (.agg #[.int .i64 0, .int .i64 1]) ∧ Below u.heap.size u w') := fun u => Whole_any 0 u
            go_wp2_with fail
            refine (HW0.out _).mono ?_
            rintro e w2 ⟨rfl, hw2⟩
            have HC2 : Hid (Below (w.heap.size + 1) (w.alloc (.cells #[.slice a1 caps.length cap1, .slice a2 paths.length cap2] 25)) w2) := hbel2.out.trans (hw2.mono z1)
            have HO2 : Hid (w2.ownsRow (w.heap.size + 1) 47 2 u8 l (flat (loadL paths r l))) := ownsRow_below hw2 (Nat.le_refl _) hown.out
            obtain ⟨g0', g1', z2⟩ := HCW.out _ (HC2.out.alloc (HCW.out _ HC2.out).2.2 (.cells #[.int .i64 0, .int .i64 1] 47))
            have HUl := HU.out l (w2.alloc (.cells #[.int .i64 0, .int .i64 1] 47)) (HBW.out _ (HC2.out.alloc (HCW.out _ HC2.out).2.2 _))
            have HLo : Hid (loadOf paths r l = addUp r (users paths l) (0, 1)) := rfl
            have HUm : Hid (∀ u ∈ users paths l, 0 ≤ u ∧ u < r.length) := fun u hu => by have := users_mem hu; have := HE.out.2; omega
            have hul : (users paths l).length ≤ 6 := by have := users_length (l : Int) 0 paths; have := HE.out.2; unfold users; omega
            generalize users paths l = us at *
            have HUl' : Hid (Calls Tryd.prog 17 #[.agg #[.slice a1 caps.length cap1, .slice a2 paths.length cap2], .int .i64 l] (w2.alloc (.cells #[.int .i64 0, .int .i64 1] 47)) fun e w' => ∃ x, e = .returned x ∧ IntsAt (fun b => (w2.alloc (.cells #[.int .i64 0, .int .i64 1] 47)).heap.size ≤ b) w' x us ∧ Below (w2.alloc (.cells #[.int .i64 0, .int .i64 1] 47)).heap.size (w2.alloc (.cells #[.int .i64 0, .int .i64 1] 47)) w') := HUl
            clear hw2 HUl g0 g1
            go_wp2_with fail
            refine HUl'.out.mono ?_
            rintro e w3 ⟨xu, rfl, hxu, hw3⟩
            have hS3 : w3.heap[w2.heap.size]? = some (.cells #[.int .i64 0, .int .i64 1] 47 (0, 0)) := (hw3.block _ (by simp)).trans (heap_alloc_new w2 _)
            have hB3 : Below w2.heap.size w2 w3 := ((Below.refl _ _).alloc (Nat.le_refl _) _).trans (hw3.mono (by simp))
            have hX3 : IntsAt (fun b => w2.heap.size < b) w3 xu us := hxu.keep (fun _ _ _ => rfl) (fun b hb _ => by simp at hb; omega)
            have HI3 : Hid (w3.heap[w2.heap.size]? = some (.cells #[.int .i64 0, .int .i64 1] 47 (0, 0)) ∧ Below w2.heap.size w2 w3 ∧ IntsAt (fun b => w2.heap.size < b) w3 xu us) := ⟨hS3, hB3, hX3⟩
            obtain ⟨au, capu, rfl, ⟨hmu, hnu⟩, _⟩ := hxu
            clear hw3 hS3 hB3 hX3 g0' g1'
            go_wp2
            go_loopw [12] (fun i wr => ∃ (j : Nat) (s : Int × Int), j ≤ us.length ∧ i = .int .i64 j ∧ Hid (wr.heap[w2.heap.size]? = some (.cells #[.int .i64 s.1, .int .i64 s.2] 47 (0, 0)) ∧ Below w2.heap.size w2 wr ∧ IntsAt (fun b => w2.heap.size < b) wr (.slice au us.length capu) us) ∧ Hid (addUp r (us.take j) (0, 1) = some s)) (fun i _ => us.length - (intOf i).toNat)
            case atStart => exact ⟨0, (0, 1), by omega, rfl, HI3, rfl⟩
            case round =>
              obtain ⟨j, s, hj, rfl, hI, hA⟩ := hrel
              obtain ⟨m0, m1, f0, f1⟩ := two_at hI.out.1
              have hS4 : w2.heap.size < wr.heap.size := (Array.getElem?_eq_some_iff.1 hI.out.1).1
              have HC4 : Hid (Below (w.heap.size + 1) (w.alloc (.cells #[.slice a1 caps.length cap1, .slice a2 paths.length cap2] 25)) wr) := HC2.out.trans (hI.out.2.1.mono (HCW.out _ HC2.out).2.2)
              by_cases hlt3 : j < us.length
              · have hum := HUm.out _ (getD_mem us j hlt3 0)
                obtain ⟨m, hm⟩ : ∃ m : Nat, us.getD j 0 = m := ⟨(us.getD j 0).toNat, by omega⟩
                obtain ⟨_, _, e, _, hcu⟩ := hI.out.2.2
                simp only [Value.slice.injEq] at e
                obtain ⟨rfl, _, rfl⟩ := e
                rcases hcu with hcu | ⟨bu, ou, rfl, hcu, _⟩
                · rw [hcu] at hlt3; simp at hlt3
                have cu : wr.cell? ⟨bu, ou + j, none⟩ = some (.int .i64 m) := by rw [hcu j hlt3, hm]
                have hmr : m < r.length := by omega
                obtain ⟨b, off, cap, e, hc⟩ := HR.out m hmr
                simp only [Value.slice.injEq] at e
                obtain ⟨rfl, _, rfl⟩ := e
                obtain ⟨c1, c2⟩ := hc _ (HBW.out _ HC4.out)
                have fs : faultP s = 0 := addUp_fault HRt.out _ _ _ (by decide) hA.out
                have fr : faultP (r.getD m (0, 0)) = 0 := (ratesE_iff r).1 HRt.out _ (getD_mem r m hmr _)
                have hg : r.getD (us.getD j 0).toNat (0, 1) = r.getD m (0, 0) := by
                  rw [hm]
                  simp [List.getD, List.getElem?_eq_getElem hmr]
                have HNone : Hid (mayP (sumP s (r.getD m (0, 0))) = false → loadE caps paths r = 4) := fun hb => loadE_big HE.out.1 HE.out.2 HRt.out hlt2 (by rw [HLo.out]; exact addUp_none hlt3 hA.out (by rw [hg]; exact hb))
                have HSome : Hid (mayP (sumP s (r.getD m (0, 0))) = true → addUp r (us.take (j + 1)) (0, 1) = some (sumP s (r.getD m (0, 0)))) := fun hb => by
                  have := addUp_step hlt3 hA.out (by rw [hg]; exact hb)
                  rw [hg] at this
                  exact this
                have hbp : 1 ≤ s.2 * (r.getD m (0, 0)).2 := Int.mul_le_mul (fault_0 fs).1 (fault_0 fr).1 (by decide) (by have := (fault_0 fs).1; omega)
                have HSum : Hid (∀ u, Calls Tryd.prog 18 #[.agg #[.int .i64 s.1, .int .i64 s.2], .agg #[.int .i64 (r.getD m (0, 0)).1, .int .i64 (r.getD m (0, 0)).2]] u fun e w' => e = .returned (.agg #[.int .i64 (sumP s (r.getD m (0, 0))).1, .int .i64 (sumP s (r.getD m (0, 0))).2]) ∧ Below u.heap.size u w') := fun u => Sum_any _ _ _ _ u fs fr
                have HBig : Hid (∀ u, Calls Tryd.prog 19 #[.agg #[.int .i64 (sumP s (r.getD m (0, 0))).1, .int .i64 (sumP s (r.getD m (0, 0))).2]] u fun e w' => e = .returned (.bool (!mayP (sumP s (r.getD m (0, 0))))) ∧ Below u.heap.size u w') := fun u => by
                  have := Big_any (sumP s (r.getD m (0, 0))).1 (sumP s (r.getD m (0, 0))).2 u
                  rw [show bigB (sumP s (r.getD m (0, 0))).1 (sumP s (r.getD m (0, 0))).2 = !mayP (sumP s (r.getD m (0, 0))) from bigB_low hbp] at this
                  exact this
                have HI4 : Hid (wr.heap[w2.heap.size]? = some (.cells #[.int .i64 s.1, .int .i64 s.2] 47 (0, 0)) ∧ Below w2.heap.size w2 wr ∧ IntsAt (fun b => w2.heap.size < b) wr (.slice (some ⟨bu, ou, none⟩) us.length capu) us) := hI.out
                generalize sumP s (r.getD m (0, 0)) = s' at *
                generalize (r.getD m (0, 0)).1 = t at *
                generalize (r.getD m (0, 0)).2 = bo at *
                obtain ⟨s1, s2⟩ := s
                obtain ⟨x', y'⟩ := s'
                simp only at *
                clear fs fr hg hcu hc hum hm hbp hI
                cases hmay : mayP (x', y') with
                | true =>
                  have HA' : Hid (addUp r (us.take (j + 1)) (0, 1) = some (x', y')) := HSome.out hmay
                  rw [hmay] at HBig
                  clear hmay
                  go_wp2_with fail
                  go_region_law (go_simp; refine (HSum.out _).mono ?_; rintro e w4 ⟨rfl, hw4⟩; obtain ⟨m0', m1', f0', f1'⟩ := two_at ((hw4.block w2.heap.size (by simpa using hS4)).trans HI4.out.1))
                  all_goals
                    go_wp2_with fail
                    refine (HBig.out _).mono ?_
                    rintro e w6 ⟨rfl, hw6⟩
                    have HI6 : Hid (w6.heap[w2.heap.size]? = some (.cells #[.int .i64 x', .int .i64 y'] 47 (0, 0)) ∧ Below w2.heap.size w2 w6 ∧ IntsAt (fun b => w2.heap.size < b) w6 (.slice (some ⟨bu, ou, none⟩) us.length capu) us) := load_stored HI4.out hw4 hw6
                    clear hw4 hw6
                    go_wp2
                    go_roundw
                    case rel => exact ⟨j + 1, (x', y'), by omega, by go_num, HI6, HA'⟩
                    case measure => simp [intOf]; omega
                | false =>
                  have HL4 : Hid (loadE caps paths r = 4) := HNone.out hmay
                  rw [hmay] at HBig
                  clear hmay
                  go_wp2_with fail
                  go_region_law (go_simp; refine (HSum.out _).mono ?_; rintro e w4 ⟨rfl, hw4⟩; obtain ⟨m0', m1', f0', f1'⟩ := two_at ((hw4.block w2.heap.size (by simpa using hS4)).trans HI4.out.1))
                  all_goals
                    go_wp2_with fail
                    refine (HBig.out _).mono ?_
                    rintro e w6 ⟨rfl, hw6⟩
                    have HI6 : Hid (w6.heap[w2.heap.size]? = some (.cells #[.int .i64 x', .int .i64 y'] 47 (0, 0)) ∧ Below w2.heap.size w2 w6 ∧ IntsAt (fun b => w2.heap.size < b) w6 (.slice (some ⟨bu, ou, none⟩) us.length capu) us) := load_stored HI4.out hw4 hw6
                    clear hw4 hw6
                    go_wp2
                    refine bodyPost_ret (v := .tuple #[.slice none 0 0, .int .i64 4]) (by simp [results, Tryd.results4, go_sem]) rfl ?_
                    rw [HL4.out]
                    exact ⟨_, rfl, fracs_nil _ _, HBW.out _ (HC2.out.trans (HI6.out.2.1.mono (HCW.out _ HC2.out).2.2))⟩
              · obtain rfl : j = us.length := by omega
                have hsum : loadOf paths r l = some s := by
                  have := hA.out
                  rw [List.take_of_length_le (Nat.le_refl _)] at this
                  rw [HLo.out]; exact this
                have HO3 : Hid (wr.ownsRow (w.heap.size + 1) 47 2 u8 l (flat (loadL paths r l))) := ownsRow_below hI.out.2.1 (Nat.le_refl _) HO2.out
                have HOk : Hid (allOk paths r (l + 1) = true) := by show _ = _; rw [allOk_snoc, hok.out, hsum]; rfl
                have HLs : Hid (loadL paths r (l + 1) = loadL paths r l ++ [s]) := by show _ = _; rw [loadL_snoc, hsum]; rfl
                have hsz4 := (HCW.out _ HC4.out).2.2
                obtain ⟨s1, s2⟩ := s
                simp only at m0 m1
                clear hsum
                go_wp2_with (at_builtin; go_must (refine wpList_append_own _ rfl (.tmp 74) (.tmp 76) 26 rfl (w.heap.size + 1) 47 i0 (.agg #[.int .i64 0, .int .i64 0]) 2 16 Tryd.underlying26 hi hz0 hz1 hz2 rfl (by decide) _ _ _ rfl (HO3.out.alloc _) ⟨wr.heap.size, 0, none⟩ 1 1 [.int .i64 s1, .int .i64 s2] rfl rfl (news_two wr _ _ _) (ones_two s1 s2) (by unfold maxLen; omega) (by omega) (by simp; omega) ?_))
                intro v' w5 hown' hgrow _
                have R1 : Hid (Below (w.heap.size + 1) (w.alloc (.cells #[.slice a1 caps.length cap1, .slice a2 paths.length cap2] 25)) w5) := rel_append HC4.out hsz4 HO3.out hgrow
                have R2 : Hid (w5.ownsRow (w.heap.size + 1) 47 2 v' (l + 1) (flat (loadL paths r (l + 1)))) := by
                  show World.ownsRow _ _ _ _ _ _ _
                  rw [HLs.out, flat_append]
                  exact hown'
                clear hown' hgrow
                go_wp2
                go_roundw
                case rel => exact ⟨l + 1, by omega, by go_num, R2, R1, HOk⟩
                case measure => simp [intOf]; omega
          · obtain rfl : l = caps.length := by omega
            have HL0 : Hid (loadE caps paths r = 0) := loadE_mk HE.out.1 HE.out.2 HRt.out hok.out
            have HX : Hid (FracsAt (fun b => w.heap.size ≤ b) wr u8 (loadL paths r caps.length)) := fracs_of_owns (by rw [loadL_length]; omega) (by rw [loadL_length]; exact hown.out) (fun g hg => by omega)
            go_wp2
            refine bodyPost_ret (v := .tuple #[u8, .int .i64 0]) (by simp [results, Tryd.results4, go_sem]) rfl ?_
            rw [HL0.out]
            exact ⟨_, rfl, HX.out, HBW.out _ hbel2.out⟩
    · have hn' : ratesE r = ev := by
        rcases hn.out with h | h
        · exact absurd h.1 hev
        · exact h.2
      have HLe : Hid (loadE caps paths r = ev) := by show _ = _; rw [loadE, if_pos HE.out.1, if_pos HE.out.2, if_neg (by rw [hn']; exact hev), hn']
      have HOk : Hid (okL ev (loadL paths r caps.length) = []) := okL_ne hev _
      have qe : (ev == 0) = false := beq_eq_false_iff_ne.2 hev
      clear hn' hev hn
      by_cases hlt : k < r.length
      · go_wp2
        go_loop [8, 9] (fun o i => o = .slice none 0 0 ∧ i = .int .i64 0) (fun _ _ => 0)
        case atStart => exact ⟨rfl, rfl⟩
        case round =>
          obtain ⟨rfl, rfl⟩ := hrel
          go_wp2
          refine bodyPost_ret (v := .tuple #[.slice none 0 0, .int .i64 ev]) (by simp [results, Tryd.results4, go_sem]) rfl ?_
          rw [HLe.out, HOk.out]
          exact ⟨_, rfl, fracs_nil _ _, HBW.out _ hbel.out⟩
      · go_wp2
        go_loop [8, 9] (fun o i => o = .slice none 0 0 ∧ i = .int .i64 0) (fun _ _ => 0)
        case atStart => exact ⟨rfl, rfl⟩
        case round =>
          obtain ⟨rfl, rfl⟩ := hrel
          go_wp2
          refine bodyPost_ret (v := .tuple #[.slice none 0 0, .int .i64 ev]) (by simp [results, Tryd.results4, go_sem]) rfl ?_
          rw [HLe.out, HOk.out]
          exact ⟨_, rfl, fracs_nil _ _, HBW.out _ hbel.out⟩

/-- the document's Load, of whatever net and rates -/
theorem RLoad_any {Q : Nat → Prop} (caps : List Int) (paths : List (List Int)) (r : List (Int × Int)) (v x : Value) (w : World) (h : NetAt Q w v caps paths) (hx : FracsAt Q w x r) :
    Calls Tryd.prog 4 #[v, x] w fun e w' => ∃ y, e = .returned (.tuple #[y, .int .i64 (loadE caps paths r)]) ∧ FracsAt (fun b => w.heap.size ≤ b) w' y (okL (loadE caps paths r) (loadL paths r caps.length)) ∧ Below w.heap.size w w' := by
  by_cases he : netE caps paths = 0
  · by_cases hl : r.length = paths.length
    · exact RLoad_main caps paths r v x w h hx he hl
    · refine (RLoad_fault caps paths r v x w h hx (.inr hl)).mono ?_
      rintro e w' ⟨rfl, hb⟩
      have : loadE caps paths r = 3 := by rw [loadE, if_pos he, if_neg hl]
      rw [this]
      exact ⟨_, rfl, fracs_nil _ _, hb⟩
  · refine (RLoad_fault caps paths r v x w h hx (.inl he)).mono ?_
    rintro e w' ⟨rfl, hb⟩
    have : loadE caps paths r = netE caps paths := by rw [loadE, if_neg he]
    rw [this, okL_ne he]
    exact ⟨_, rfl, fracs_nil _ _, hb⟩
end Ld
end Go.Proofs.YtdegbfgnbobgoacDoor
