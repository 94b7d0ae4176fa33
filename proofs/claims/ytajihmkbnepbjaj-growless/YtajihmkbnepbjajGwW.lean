/- Package grow's Wider: the rates of the net of which one link takes more. -/
import Derived.Test.YtajihmkbnepbjajNetB
import Derived.Test.YtajihmkbnepbjajCloneI
import Derived.Test.YtajihmkbnepbjajFillSaidR
import Derived.Test.YtajihmkbnepbjajPlains
namespace Go.Proofs.Ytajihmkbnepbjaj
namespace Fl
open Go.RowKit Fr Ns Ld Ev
set_option linter.unusedSimpArgs false
set_option linter.unusedVariables false

/-- the net that Wider makes: a row of its own, and the paths that it was handed -/
theorem wider_at {Q : Nat → Prop} {w u : World} {g c B : Nat} {nc : List Int} {paths : List (List Int)} {y : Value} {sp : List Value} (hr : RowAt u g 3 (nc.map (Value.int .i64) ++ sp)) (hc : nc.length ≤ c) (hl : nc.length ≤ 6)
    (hp : ListsAt Q w y paths) (hb : Below w.heap.size w u) : NetAt (fun _ => True) u (.agg #[.slice (some ⟨g, 0, none⟩) nc.length c, y]) nc paths :=
  ⟨_, _, rfl, intsRow hr hc (by omega) trivial, (hp.later hb).keep (fun _ _ _ => rfl) (fun _ _ _ => trivial)⟩

set_option maxRecDepth 100000 in
set_option maxHeartbeats 2000000 in
theorem gwider_said : GWiderSaid := by
  intro Q caps paths link more v w h
  have HCk : Hid (∀ u, Below w.heap.size w u → Calls Try.prog 33 #[v] u fun e w' => e = .returned (errV (netE caps paths)) ∧ Below u.heap.size u w') := fun u hu => check_said Q caps paths v u (h.later hu)
  by_cases he : netE caps paths = 0
  · rw [he, errV_0] at HCk
    by_cases hr : link < 0 ∨ (caps.length : Int) ≤ link ∨ more < 0 ∨ 1000 < more
    · have HE : widerE caps paths link more = 1 := by rw [widerE, if_pos he, if_pos hr]
      rw [HE, okL_ne (by decide)]
      clear HE he
      obtain ⟨v1, v2, rfl, h1, h2⟩ := h
      obtain ⟨a1, cap1, rfl, _⟩ := h1
      obtain ⟨a2, cap2, rfl, _⟩ := h2
      have hcs : link < 0 ∨ (¬ link < 0 ∧ decide ((caps.length : Int) ≤ link) = true) ∨ (¬ link < 0 ∧ decide ((caps.length : Int) ≤ link) = false ∧ more < 0) ∨ (¬ link < 0 ∧ decide ((caps.length : Int) ≤ link) = false ∧ ¬ more < 0 ∧ more > 1000) := by
        simp only [decide_eq_true_eq, decide_eq_false_iff_not]
        omega
      clear hr
      rcases hcs with q1 | ⟨q1, q2⟩ | ⟨q1, q2, q3⟩ | ⟨q1, q2, q3, q4⟩
      all_goals
        go_enter Try.func17, Try.ntmps17
        go_wp2_with fail
        refine (HCk.out _ ((Below.refl _ _).alloc (Nat.le_refl _) _)).mono ?_
        rintro e w1 ⟨rfl, hw1⟩
        have g0 : w1.cell? ⟨w.heap.size, 0, none⟩ = some (.slice a1 caps.length cap1) := cell_later hw1 (by simp)
        have HB1 : Hid (Below w.heap.size w w1) := ((Below.refl _ _).alloc (Nat.le_refl _) _).trans (hw1.mono (by simp))
        clear hw1
        go_wp2
        refine bodyPost_ret (v := .tuple #[.slice none 0 0, .iface 72 (.int .i64 1)]) (by simp [results, Try.results17, go_sem]) rfl ?_
        exact ⟨_, rfl, fracs_nil _ _, HB1.out⟩
    · obtain ⟨k, rfl⟩ : ∃ k : Nat, link = k := ⟨link.toNat, by omega⟩
      have hk : k < caps.length := by omega
      have q1 : ¬ (k : Int) < 0 := by omega
      have q2 : decide ((caps.length : Int) ≤ (k : Int)) = false := by simp; omega
      have q3 : ¬ more < 0 := by omega
      have q4 : ¬ more > 1000 := by omega
      have hcap := (good_of_net he)
      have h0 := netE_0 he
      obtain ⟨v1, v2, rfl, h1, h2⟩ := h
      have H1 : Hid (IntsAt Q w v1 caps) := h1
      have H2 : Hid (ListsAt Q w v2 paths) := h2
      obtain ⟨a1, cap1, rfl, ⟨hm1, hn1⟩, h1⟩ := h1
      obtain ⟨a2, cap2, rfl, _⟩ := h2
      obtain ⟨b, off, rfl, hc, _⟩ : ∃ b off, a1 = some ⟨b, off, none⟩ ∧ (∀ i, i < caps.length → w.cell? ⟨b, off + i, none⟩ = some (.int .i64 (caps.getD i 0))) ∧ Q b := by
        rcases h1 with h1 | h1
        · rw [h1] at hk; simp at hk
        · exact h1
      have hck := hc k hk
      have hcr := hcap.1 _ (getD_mem caps k hk 0)
      by_cases hf : 1000 < caps.getD k 0 + more
      · have HE : widerE caps paths k more = 4 := by rw [widerE, if_pos he, if_neg hr, if_pos (by simpa using hf)]
        rw [HE, okL_ne (by decide)]
        generalize caps.getD k 0 = x at *
        have q5 : wrap64 (x + more) = x + more := by unfold wrap64; omega
        have q6 : x + more > 1000 := by omega
        clear HE he hr hf h1 hc hcap h0
        go_enter Try.func17, Try.ntmps17
        go_wp2_with fail
        refine (HCk.out _ ((Below.refl _ _).alloc (Nat.le_refl _) _)).mono ?_
        rintro e w1 ⟨rfl, hw1⟩
        have g0 : w1.cell? ⟨w.heap.size, 0, none⟩ = some (.slice (some ⟨b, off, none⟩) caps.length cap1) := cell_later hw1 (by simp)
        have HB1 : Hid (Below w.heap.size w w1) := ((Below.refl _ _).alloc (Nat.le_refl _) _).trans (hw1.mono (by simp))
        have g1 : w1.cell? ⟨b, off + k, none⟩ = some (.int .i64 x) := cell_later HB1.out hck
        clear hw1
        go_wp2
        refine bodyPost_ret (v := .tuple #[.slice none 0 0, .iface 72 (.int .i64 4)]) (by simp [results, Try.results17, go_sem]) rfl ?_
        exact ⟨_, rfl, fracs_nil _ _, HB1.out⟩
      · have HE : widerE caps paths k more = 0 := by rw [widerE, if_pos he, if_neg hr, if_neg (by simpa using hf)]
        have HW : Hid (widerC caps k more = caps.set k (caps.getD k 0 + more)) := by simp [Hid, widerC]
        have HR : Hid (∀ (R : Nat → Prop) (y : Value) (u : World), NetAt R u y (widerC caps k more) paths → Calls Try.prog 13 #[y] u fun e w' => ∃ z, e = .returned (.tuple #[z, .nilIface]) ∧
            FracsAt (fun b => u.heap.size ≤ b) w' z (fill (widerC caps k more) paths).1 ∧ Below u.heap.size u w') := by
          intro R y u hy
          have := rates_said R _ _ y u hy
          rw [wider_net HE, errV_0, okL_0] at this
          exact this
        have HCl : Hid (∀ u, Below w.heap.size w u → Calls Try.prog 34 #[.slice (some ⟨b, off, none⟩) caps.length cap1] u fun e w' => ∃ x, e = .returned x ∧ OwnInts u.heap.size w' x caps ∧ Below u.heap.size u w') := fun u hu => CloneE_ints caps _ u (H1.out.later hu) (by omega) (by omega)
        rw [HE, errV_0, okL_0]
        have hl6 : caps.length ≤ 6 := h0.2.1
        have HN : Hid ((widerC caps k more).length = caps.length) := widerC_length _ _ _
        generalize (fill (widerC caps k more) paths).1 = lr at *
        have HX : ∃ x, x = caps.getD k 0 := ⟨_, rfl⟩
        obtain ⟨x, hx⟩ := HX
        rw [← hx] at hck hcr hf HW
        have q5 : wrap64 (x + more) = x + more := by unfold wrap64; omega
        have q6 : ¬ x + more > 1000 := by omega
        have Hx : Hid (x = caps.getD k 0) := hx
        clear HE he hr hf h1 hc hcap h0 hx
        generalize widerC caps k more = nc at *
        go_enter Try.func17, Try.ntmps17
        go_wp2_with fail
        refine (HCk.out _ ((Below.refl _ _).alloc (Nat.le_refl _) _)).mono ?_
        rintro e w1 ⟨rfl, hw1⟩
        have g0 : w1.cell? ⟨w.heap.size, 0, none⟩ = some (.slice (some ⟨b, off, none⟩) caps.length cap1) := cell_later hw1 (by simp)
        have g1 : w1.cell? ⟨w.heap.size, 1, none⟩ = some (.slice a2 paths.length cap2) := cell_later hw1 (by simp)
        have HB1 : Hid (Below w.heap.size w w1) := ((Below.refl _ _).alloc (Nat.le_refl _) _).trans (hw1.mono (by simp))
        have hs1 : w.heap.size < w1.heap.size := by have := hw1.size; simp at this; omega
        have g2 : w1.cell? ⟨b, off + k, none⟩ = some (.int .i64 x) := cell_later HB1.out hck
        clear hw1
        go_wp2_with fail
        refine (HCl.out _ HB1.out).mono ?_
        rintro e w2 ⟨y, rfl, ⟨g, c, sp, rfl, hgc, hgl, hrow⟩, hw2⟩
        have g3 : w2.cell? ⟨w.heap.size, 1, none⟩ = some (.slice a2 paths.length cap2) := cell_later hw2 g1
        have g4 : w2.cell? ⟨g, k, none⟩ = some (.int .i64 x) := by rw [Hx.out]; exact hrow.cell (intsCell hk)
        have g5 : ∀ i, w2.frozen? ⟨g, i, none⟩ = false := hrow.frozen
        have HB2 : Hid (Below w.heap.size w w2) := HB1.out.trans (hw2.mono (by omega))
        have HN2 : Hid (NetAt (fun _ => True) (w2.setCell ⟨g, k, none⟩ (.int .i64 (x + more))) (.agg #[.slice (some ⟨g, 0, none⟩) caps.length c, .slice a2 paths.length cap2]) nc paths) := by
          have hrs : RowAt (w2.setCell ⟨g, k, none⟩ (.int .i64 (x + more))) g 3 (nc.map (Value.int .i64) ++ sp) := by
            rw [HW.out, ← intsSet hk]
            exact hrow.set _ _
          rw [← HN.out]
          exact wider_at (B := 0) hrs (by rw [HN.out]; exact hgc) (by rw [HN.out]; exact hl6) H2.out (HB2.out.setCell (by simp; omega) _)
        have HB3 : Hid (Below w.heap.size w (w2.setCell ⟨g, k, none⟩ (.int .i64 (x + more)))) := HB2.out.setCell (by simp; omega) _
        have hs2 : w.heap.size ≤ (w2.setCell ⟨g, k, none⟩ (.int .i64 (x + more))).heap.size := HB3.out.size
        have g6 : (w2.setCell ⟨g, k, none⟩ (.int .i64 (x + more))).cell? ⟨w.heap.size, 1, none⟩ = some (.slice a2 paths.length cap2) := by
          go_simp
        clear hw2 hrow
        go_wp2_with fail
        refine (HR.out _ _ _ HN2.out).mono ?_
        rintro e w3 ⟨z, rfl, hz, hw3⟩
        have HZ : Hid (FracsAt (fun b => w.heap.size ≤ b) w3 z lr) := hz.keep (fun _ _ _ => rfl) (fun b hb _ => by omega)
        have HB4 : Hid (Below w.heap.size w w3) := HB3.out.trans (hw3.mono (by omega))
        obtain ⟨az, capz, rfl, _⟩ := hz
        clear hw3
        go_wp2
        refine bodyPost_ret (v := .tuple #[.slice az lr.length capz, .nilIface]) (by simp [results, Try.results17, go_sem]) rfl ⟨_, rfl, HZ.out, HB4.out⟩
  · have HE : widerE caps paths link more = netE caps paths := by rw [widerE, if_neg he]
    have HV : Hid (errV (netE caps paths) = .iface 72 (.int .i64 (netE caps paths))) := errV_ne he
    have HK1 : okL (netE caps paths) (fill (widerC caps link more) paths).1 = [] := okL_ne he _
    rw [HV.out] at HCk
    rw [HE, HV.out, HK1]
    clear HE HK1
    generalize netE caps paths = ek at *
    clear he
    obtain ⟨v1, v2, rfl, h1, h2⟩ := h
    obtain ⟨a1, cap1, rfl, _⟩ := h1
    obtain ⟨a2, cap2, rfl, _⟩ := h2
    go_enter Try.func17, Try.ntmps17
    go_wp2_with fail
    refine (HCk.out _ ((Below.refl _ _).alloc (Nat.le_refl _) _)).mono ?_
    rintro e w1 ⟨rfl, hw1⟩
    have HB1 : Hid (Below w.heap.size w w1) := ((Below.refl _ _).alloc (Nat.le_refl _) _).trans (hw1.mono (by simp))
    clear hw1
    go_wp2
    refine bodyPost_ret (v := .tuple #[.slice none 0 0, .iface 72 (.int .i64 ek)]) (by simp [results, Try.results17, go_sem]) rfl ?_
    exact ⟨_, rfl, fracs_nil _ _, HB1.out⟩
end Fl
end Go.Proofs.Ytajihmkbnepbjaj
