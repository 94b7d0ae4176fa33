/- slices.SortFunc over few fractions; package rank's Sorted keeps what the document says. -/
import Derived.Test.YtdldgefahgojaakGreatDoorRkB
import Derived.Test.YtdldgefahgojaakGreatDoorPlains
namespace Go.Proofs.YtdldgefahgojaakGreatDoor
namespace Fl
open Go.RowKit Fr Ns Ld
set_option linter.unusedSimpArgs false
set_option linter.unusedVariables false

/-- a row of one's own, with room behind it -/
def SortW (w : World) (a : Option Addr) (g : Nat) (sp : List Value) (l : List (Int × Int)) : Prop := l = [] ∨ (a = some ⟨g, 0, none⟩ ∧ RowAt w g 50 (flat l ++ sp))

theorem insertion_none (a : Option Addr) (cap : Nat) (w : World) :
    Calls Tryz.prog 77 #[.slice a 0 cap, .int .i64 0, .int .i64 0, .func (.func 36) #[] #[]] w fun e w' => e = .returned (.tuple #[]) ∧ w' = w := by
  go_enter Tryz.func77, Tryz.ntmps77
  go_wp2
  go_loopw [8, 9] (fun s8 _ wr => s8 = .int .i64 1 ∧ wr = w) (fun _ _ _ => 0)
  case atStart => exact ⟨by go_num, rfl⟩
  case round =>
    obtain ⟨rfl, rfl⟩ := hrel
    go_wp2
    go_end0
    exact ⟨rfl, rfl⟩

theorem insertion_all (l : List (Int × Int)) (a : Option Addr) (g cap B : Nat) (sp : List Value) (w : World) (hf : ∀ a ∈ l, faultP a = 0) (h6 : l.length ≤ 6) (hB : B ≤ g) (hr : SortW w a g sp l) :
    Calls Tryz.prog 77 #[.slice a l.length cap, .int .i64 0, .int .i64 l.length, .func (.func 36) #[] #[]] w fun e w' => e = .returned (.tuple #[]) ∧ SortW w' a g sp (sortP l) ∧ Below B w w' := by
  by_cases h1 : l = []
  · subst h1
    exact (insertion_none a cap w).mono fun e w' ⟨he, hw⟩ => ⟨he, .inl rfl, by rw [hw]; exact Below.refl _ _⟩
  · rcases hr with hr | ⟨rfl, hr⟩
    · exact absurd hr h1
    · exact (insertion_any l g cap B sp w hf h6 (List.length_pos_iff.2 h1) hB hr).mono fun e w' ⟨he, hw, hb⟩ => ⟨he, .inr ⟨rfl, hw⟩, hb⟩

set_option maxHeartbeats 2000000 in
set_option maxRecDepth 100000 in
theorem pdq_all (l : List (Int × Int)) (a : Option Addr) (g cap B : Nat) (lim : Int) (sp : List Value) (w : World) (hf : ∀ a ∈ l, faultP a = 0) (h6 : l.length ≤ 6) (hB : B ≤ g) (hr : SortW w a g sp l) :
    Calls Tryz.prog 66 #[.slice a l.length cap, .int .i64 0, .int .i64 l.length, .int .i64 lim, .func (.func 36) #[] #[]] w fun e w' => e = .returned (.tuple #[]) ∧ SortW w' a g sp (sortP l) ∧ Below B w w' := by
  have HI : Hid (Calls Tryz.prog 77 #[.slice a l.length cap, .int .i64 0, .int .i64 l.length, .func (.func 36) #[] #[]] w fun e w' => e = .returned (.tuple #[]) ∧ SortW w' a g sp (sortP l) ∧ Below B w w') := insertion_all l a g cap B sp w hf h6 hB hr
  have h12 : (l.length : Int) ≤ 12 := by omega
  have hwp : IntKind.i64.wrap (l.length : Int) = (l.length : Int) := by rw [IntKind.wrap_i64]; omega
  generalize sortP l = sl at *
  clear hr hf
  go_enter Tryz.func66, Tryz.ntmps66
  go_wp2
  refine wp_loop_rounds 1 ?_
  rw [rounds_succ]
  go_wp2_with fail
  refine HI.out.mono ?_
  rintro e w1 ⟨rfl, hs, hb⟩
  have HS : Hid (SortW w1 a g sp sl ∧ Below B w w1) := ⟨hs, hb⟩
  clear hs hb
  go_wp2
  (try simp only [Exit.inBlock, Exit.then]); refine bodyPost_ret (results_none rfl _ _ _) rfl ?_
  exact ⟨rfl, HS.out.1, HS.out.2⟩

set_option maxHeartbeats 1000000 in
theorem SortFunc_any (l : List (Int × Int)) (a : Option Addr) (g cap B : Nat) (sp : List Value) (w : World) (hf : ∀ a ∈ l, faultP a = 0) (h6 : l.length ≤ 6) (hB : B ≤ g) (hr : SortW w a g sp l) :
    Calls Tryz.prog 51 #[.slice a l.length cap, .func (.func 36) #[] #[]] w fun e w' => e = .returned (.tuple #[]) ∧ SortW w' a g sp (sortP l) ∧ Below B w w' := by
  have HP : Hid (∀ lim, Calls Tryz.prog 66 #[.slice a l.length cap, .int .i64 0, .int .i64 l.length, .int .i64 lim, .func (.func 36) #[] #[]] w fun e w' => e = .returned (.tuple #[]) ∧ SortW w' a g sp (sortP l) ∧ Below B w w') := fun lim => pdq_all l a g cap B lim sp w hf h6 hB hr
  have HL : Hid (Calls Tryz.prog 67 #[.int .u64 l.length] w fun e w' => (∃ k : Int, e = .returned (.int .i64 k)) ∧ w' = w) := Len_few l.length h6 w
  have hwp : IntKind.u64.wrap (l.length : Int) = (l.length : Int) := by
    have h0 : (l.length : Int) ≤ 6 := by omega
    simp [IntKind.wrap, IntKind.bits, IntKind.signed]
    omega
  generalize sortP l = sl at *
  clear hr hf
  go_enter Tryz.func51, Tryz.ntmps51
  go_wp2_with fail
  refine HL.out.mono ?_
  rintro e w1 ⟨⟨k, rfl⟩, rfl⟩
  go_wp2_with fail
  refine (HP.out k).mono ?_
  rintro e w2 ⟨rfl, hs, hb⟩
  have HS : Hid (SortW w2 a g sp sl ∧ Below B w1 w2) := ⟨hs, hb⟩
  clear hs hb
  go_wp2
  go_end0
  exact ⟨rfl, HS.out.1, HS.out.2⟩

theorem ones_row : ∀ (l : List (Int × Int)) (y : Value), y ∈ flat l → y.oneCell' = true := by
  intro l
  induction l with
  | nil => intro y h; simp [flat] at h
  | cons a r ih =>
    intro y h
    simp only [flat, List.mem_cons] at h
    rcases h with rfl | rfl | h
    · rfl
    · rfl
    · exact ih y h
/-- a row of one's own as one to be sorted -/
theorem sortW_of_owns {w : World} {base : Nat} {v : Value} {l : List (Int × Int)} (h : w.ownsRow base 50 2 v l.length (flat l)) : ∃ a g cap sp, v = .slice a l.length cap ∧ l.length ≤ cap ∧ base ≤ g ∧ SortW w a g sp l := by
  obtain ⟨h0, h⟩ := h
  rcases h with ⟨rfl, h⟩ | ⟨g, cap, cur, rfl, hb, hg, hc, hm, hs, ht⟩
  · have : l = [] := List.eq_nil_of_length_eq_zero h
    subst this
    exact ⟨none, base, 0, [], rfl, Nat.le_refl _, Nat.le_refl _, .inl rfl⟩
  · refine ⟨_, g, cap, cur.toList.drop (l.length * 2), rfl, hc, hb, .inr ⟨rfl, ?_⟩⟩
    unfold RowAt
    rw [hg, ← ht, List.take_append_drop]
/-- and what was sorted as a list -/
theorem fracs_of_sortW {w : World} {base g cap : Nat} {a : Option Addr} {sp : List Value} {l : List (Int × Int)} {n : Nat} (hn : n = l.length) (hl : n ≤ cap) (h6 : n ≤ 6) (hb : base ≤ g) (h : SortW w a g sp l) : FracsAt (fun b => base ≤ b) w (.slice a n cap) l := by
  subst hn
  refine ⟨a, cap, rfl, ⟨hl, by omega⟩, ?_⟩
  rcases h with h | ⟨rfl, h⟩
  · exact .inl h
  · refine .inr ⟨g, 0, rfl, fun i hi => ?_, hb⟩
    obtain ⟨f1, f2⟩ := flatS_at l sp i hi
    rw [Nat.zero_add]
    exact ⟨h.cell f1, h.cell f2⟩

set_option maxRecDepth 100000 in
set_option maxHeartbeats 2000000 in
theorem sorted_said : SortedSaid := by
  intro Q r x w hx
  have HCk : Hid (Calls Tryz.prog 50 #[x] w fun e w' => e = .returned (errV (sortE r)) ∧ Below w.heap.size w w') := RCheck_any r x w hx
  by_cases he : sortE r = 0
  · obtain ⟨h6, hf⟩ := sortE_0 he
    rw [he, errV_0] at HCk ⊢
    have HFi : Hid (∀ a g cap sp u, r.length ≤ cap → w.heap.size ≤ g → SortW u a g sp r → Calls Tryz.prog 51 #[.slice a r.length cap, .func (.func 36) #[] #[]] u fun e w' => e = .returned (.tuple #[]) ∧ FracsAt (fun b => w.heap.size ≤ b) w' (.slice a r.length cap) (sortP r) ∧ Below w.heap.size u w') := fun a g cap sp u hl hb hs =>
      (SortFunc_any r a g cap w.heap.size sp u hf h6 hb hs).mono fun e w' ⟨h1, h2, h3⟩ => ⟨h1, fracs_of_sortW (sortP_length r).symm hl h6 hb h2, h3⟩
    have HOk : Hid (okL (0 : Int) (sortP r) = sortP r) := if_pos rfl
    rw [HOk.out]
    generalize sortP r = sr at *
    obtain ⟨ar, capr, rfl, ⟨hm, hn⟩, hc⟩ := hx
    obtain ⟨i0, hi0, hz0, hz1, hz2⟩ := info_parts infoFrac
    cases ar with
    | none =>
      have hr0 : r = [] := by
        rcases hc with h | ⟨b, off, h, _⟩
        · exact h
        · cases h
      subst hr0
      have HF0 : Hid (∀ u, Calls Tryz.prog 51 #[.slice none 0 0, .func (.func 36) #[] #[]] u fun e w' => e = .returned (.tuple #[]) ∧ FracsAt (fun b => w.heap.size ≤ b) w' (.slice none 0 0) sr ∧ Below w.heap.size u w') := fun u => HFi.out none w.heap.size 0 [] u (Nat.le_refl _) (Nat.le_refl _) (.inl rfl)
      clear hc hf h6 HFi
      go_enter Tryz.func34, Tryz.ntmps34
      go_wp2_with fail
      refine HCk.out.mono ?_
      rintro e w1 ⟨rfl, hw1⟩
      have HB1 : Hid (Below w.heap.size w w1) := hw1
      clear hw1
      go_wp2_with fail
      refine (HF0.out _).mono ?_
      rintro e w2 ⟨rfl, hfr, hw2⟩
      have HB2 : Hid (FracsAt (fun b => w.heap.size ≤ b) w2 (.slice none 0 0) sr ∧ Below w.heap.size w w2) := ⟨hfr, HB1.out.trans hw2⟩
      clear hfr hw2
      go_wp2
      refine bodyPost_ret (v := .tuple #[.slice none 0 0, .nilIface]) (by simp [results, Tryz.results34, go_sem]) rfl ⟨_, rfl, HB2.out.1, HB2.out.2⟩
    | some ad =>
      have A : Hid (∀ u, Below w.heap.size w u → ∀ j y, (flat r)[j]? = some y → u.cell? (ad.add j) = some y) := by
        intro u hu
        rcases hc with rfl | ⟨b, off, h, hc, _⟩
        · intro j y hj; simp [flat] at hj
        · cases h
          exact cells_flat fun i hi => ⟨cell_later hu (hc i hi).1, cell_later hu (hc i hi).2⟩
      have U1 : Hid (∀ u ∈ flat r, u.oneCell' = true) := ones_row r
      have L1 : Hid ((flat r).length = r.length * 2) := flat_length r
      clear hc hf
      go_enter Tryz.func34, Tryz.ntmps34
      go_wp2_with fail
      refine HCk.out.mono ?_
      rintro e w1 ⟨rfl, hw1⟩
      have HB1 : Hid (Below w.heap.size w w1) := hw1
      have hs1 : w.heap.size ≤ w1.heap.size := hw1.size
      clear hw1
      go_wp2_with (at_builtin; go_must (refine wpList_append_own _ rfl _ _ 24 rfl w.heap.size 50 i0 (.agg #[.int .i64 0, .int .i64 0]) 2 16 Tryz.underlying24 hi0 hz0 hz1 hz2 rfl (by decide) _ _ _ rfl (World.ownsRow_nil _ _ _ _) ad r.length capr (flat r) rfl L1.out ?c1 U1.out ?c3 ?c4 ?c5 ?_))
      case c1 => exact A.out w1 HB1.out
      case c3 => unfold maxLen; omega
      case c4 => omega
      case c5 => exact hs1
      intro v1 w2 hown hgrow _
      have hown' : w2.ownsRow w.heap.size 50 2 v1 r.length (flat r) := by simpa using hown
      have HB2 : Hid (Below w.heap.size w w2) := HB1.out.grown hgrow hs1 (by intro k hk; cases hk)
      obtain ⟨a, g, cap, sp, rfl, hcap, hg, hS⟩ := sortW_of_owns hown'
      have HF1 : Hid (Calls Tryz.prog 51 #[.slice a r.length cap, .func (.func 36) #[] #[]] w2 fun e w' => e = .returned (.tuple #[]) ∧ FracsAt (fun b => w.heap.size ≤ b) w' (.slice a r.length cap) sr ∧ Below w.heap.size w2 w') := HFi.out a g cap sp w2 hcap hg hS
      clear hown hown' hgrow hS HFi
      go_wp2_with fail
      refine HF1.out.mono ?_
      rintro e w3 ⟨rfl, hfr, hw3⟩
      have HB3 : Hid (FracsAt (fun b => w.heap.size ≤ b) w3 (.slice a r.length cap) sr ∧ Below w.heap.size w w3) := ⟨hfr, HB2.out.trans hw3⟩
      clear hfr hw3
      go_wp2
      refine bodyPost_ret (v := .tuple #[.slice a r.length cap, .nilIface]) (by simp [results, Tryz.results34, go_sem]) rfl ⟨_, rfl, HB3.out.1, HB3.out.2⟩
  · have HV : Hid (errV (sortE r) = .iface 55 (.int .i64 (sortE r))) := errV_ne he
    have HOk : Hid (okL (sortE r) (sortP r) = []) := if_neg he
    rw [HOk.out]
    rw [HV.out] at HCk ⊢
    generalize sortE r = er at *
    obtain ⟨ar, capr, rfl, ⟨hm, hn⟩, hc⟩ := hx
    clear hc
    go_enter Tryz.func34, Tryz.ntmps34
    go_wp2_with fail
    refine HCk.out.mono ?_
    rintro e w1 ⟨rfl, hw1⟩
    have HB1 : Hid (Below w.heap.size w w1) := hw1
    clear hw1
    go_wp2
    refine bodyPost_ret (v := .tuple #[.slice none 0 0, .iface 55 (.int .i64 er)]) (by simp [results, Tryz.results34, go_sem]) rfl ⟨_, rfl, fracs_nil _ _, HB1.out⟩
end Fl
end Go.Proofs.YtdldgefahgojaakGreatDoor
