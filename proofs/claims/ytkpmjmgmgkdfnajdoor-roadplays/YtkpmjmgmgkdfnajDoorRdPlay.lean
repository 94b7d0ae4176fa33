/- Two roads side by side, package road's and the document's: what the law RoadPlays carries along. -/
import Derived.Test.YtkpmjmgmgkdfnajDoorPlains
import Derived.Test.YtkpmjmgmgkdfnajDoorRTickR
namespace Go.Proofs.YtkpmjmgmgkdfnajDoor
namespace Ev
open Go.RowKit Fr Ns Ld Fl
set_option linter.unusedSimpArgs false
set_option linter.unusedVariables false

/-- package road's road behind i ticks, the document's behind k, in memory of their own, apart -/
def Side (X : RoadFace) (w : World) (a : Addr) (g gs cs : Nat) (sp : List Value) (R0 : Road) (i k : Nat) (rv : Value) (u : World) : Prop :=
  ∃ F, X.Inv u (.pointer (some a)) F (ticksR R0 i) ∧ RefAt u g gs cs sp rv (ticksR R0 k).S R0.room R0.cap (ticksR R0 k).wait (ticksR R0 k).row ∧ (∀ b, F b → ¬ refF g gs rv b) ∧ (∀ b, F b → w.heap.size ≤ b) ∧ (∀ b, refF g gs rv b → w.heap.size ≤ b) ∧ Below w.heap.size w u
theorem Side.later {X : RoadFace} {w : World} {a : Addr} {g gs cs : Nat} {sp : List Value} {R0 : Road} {i k : Nat} {rv : Value} {u u' : World} (h : Side X w a g gs cs sp R0 i k rv u) (hb : Below u.heap.size u u') : Side X w a g gs cs sp R0 i k rv u' := by
  obtain ⟨F, h1, h2, h3, h4, h5, h6⟩ := h
  exact ⟨F, X.later hb h1, h2.later hb, h3, h4, h5, Bel.call h6 (Nat.le_refl _) hb⟩
theorem Side.below {X : RoadFace} {w : World} {a : Addr} {g gs cs : Nat} {sp : List Value} {R0 : Road} {i k : Nat} {rv : Value} {u : World} (h : Side X w a g gs cs sp R0 i k rv u) : Below w.heap.size w u := h.choose_spec.2.2.2.2.2
theorem Side.ref {X : RoadFace} {w : World} {a : Addr} {g gs cs : Nat} {sp : List Value} {R0 : Road} {i k : Nat} {rv : Value} {u : World} (h : Side X w a g gs cs sp R0 i k rv u) : RefAt u g gs cs sp rv (ticksR R0 k).S R0.room R0.cap (ticksR R0 k).wait (ticksR R0 k).row := h.choose_spec.2.1
theorem ticks_room (R : Road) : ∀ k, (ticksR R k).room = R.room ∧ (ticksR R k).cap = R.cap := by
  intro k
  induction k with
  | zero => exact ⟨rfl, rfl⟩
  | succ k ih => exact ih
/-- the document's tick -/
theorem side_ref {X : RoadFace} {w : World} {a : Addr} {g gs cs : Nat} {sp : List Value} {R0 : Road} (hr : ∀ k, RightR (ticksR R0 k)) {i k : Nat} {rv : Value} {u : World} (h : Side X w a g gs cs sp R0 i k rv u) :
    Calls Tryd.prog 7 #[.pointer (some ⟨g, 0, none⟩)] u fun e w' => e = .returned (.agg #[.int .i64 (goneK R0 k).1, .int .i64 (goneK R0 k).2.1, .int .i64 (goneK R0 k).2.2]) ∧ ∃ rv', Side X w a g gs cs sp R0 i (k + 1) rv' w' := by
  obtain ⟨F, h1, h2, h3, h4, h5, h6⟩ := h
  have hat : RefAt u g gs cs sp rv (ticksR R0 k).S (ticksR R0 k).room (ticksR R0 k).cap (ticksR R0 k).wait (ticksR R0 k).row := by rw [(ticks_room R0 k).1, (ticks_room R0 k).2]; exact h2
  refine (RTickR_any u g gs cs sp rv (ticksR R0 k) hat (hr k)).mono ?_
  rintro e w' ⟨rfl, wv, hb, ha, hn⟩
  rw [(ticks_room R0 k).1, (ticks_room R0 k).2] at ha
  have hs : w.heap.size ≤ u.heap.size := h6.size
  refine ⟨by rw [goneV_K], wv, F, X.keep h1 (fun b hb' => hb.2 b (X.lt h1 b hb') (h3 b hb')), ha, fun b hb' hF => ?_, h4, ?_, h6.trans (hb.below (fun b hb' => h5 b hb') hs)⟩
  · rcases hF with rfl | rfl | hF
    · exact h3 _ hb' (.inl rfl)
    · exact h3 _ hb' (.inr (.inl rfl))
    · have := X.lt h1 b hb'; have := hn b hF; omega
  · rintro b (rfl | rfl | hF)
    · exact h5 _ (.inl rfl)
    · exact h5 _ (.inr (.inl rfl))
    · have := hn b hF; omega
/-- and what the document's tick told, in a block of its own -/
def SideW (X : RoadFace) (w : World) (a : Addr) (g gs cs : Nat) (sp : List Value) (R0 : Road) (i k : Nat) (rv : Value) (gw : Nat) (xs : List Value) (u : World) : Prop :=
  ∃ F, X.Inv u (.pointer (some a)) F (ticksR R0 i) ∧ RefAt u g gs cs sp rv (ticksR R0 k).S R0.room R0.cap (ticksR R0 k).wait (ticksR R0 k).row ∧ (∀ b, F b → ¬ refF g gs rv b) ∧ (∀ b, F b → w.heap.size ≤ b) ∧ (∀ b, refF g gs rv b → w.heap.size ≤ b) ∧ Below w.heap.size w u ∧ ¬ F gw ∧ RowAt u gw 37 xs
theorem SideW.side {X : RoadFace} {w : World} {a : Addr} {g gs cs : Nat} {sp : List Value} {R0 : Road} {i k : Nat} {rv : Value} {gw : Nat} {xs : List Value} {u : World} (h : SideW X w a g gs cs sp R0 i k rv gw xs u) : Side X w a g gs cs sp R0 i k rv u := by
  obtain ⟨F, h1, h2, h3, h4, h5, h6, _, _⟩ := h
  exact ⟨F, h1, h2, h3, h4, h5, h6⟩
theorem SideW.row {X : RoadFace} {w : World} {a : Addr} {g gs cs : Nat} {sp : List Value} {R0 : Road} {i k : Nat} {rv : Value} {gw : Nat} {xs : List Value} {u : World} (h : SideW X w a g gs cs sp R0 i k rv gw xs u) : RowAt u gw 37 xs := h.choose_spec.2.2.2.2.2.2.2
theorem SideW.later {X : RoadFace} {w : World} {a : Addr} {g gs cs : Nat} {sp : List Value} {R0 : Road} {i k : Nat} {rv : Value} {gw : Nat} {xs : List Value} {u u' : World} (h : SideW X w a g gs cs sp R0 i k rv gw xs u) (hb : Below u.heap.size u u') : SideW X w a g gs cs sp R0 i k rv gw xs u' := by
  obtain ⟨F, h1, h2, h3, h4, h5, h6, h7, h8⟩ := h
  exact ⟨F, X.later hb h1, h2.later hb, h3, h4, h5, Bel.call h6 (Nat.le_refl _) hb, h7, h8.later hb h8.lt⟩
theorem Side.told {X : RoadFace} {w : World} {a : Addr} {g gs cs : Nat} {sp : List Value} {R0 : Road} {i k : Nat} {rv : Value} {u : World} (h : Side X w a g gs cs sp R0 i k rv u) (x y z : Value) : SideW X w a g gs cs sp R0 i k rv u.heap.size [x, y, z] (u.alloc (.cells #[x, y, z] 37)) := by
  obtain ⟨F, h1, h2, h3, h4, h5, h6⟩ := h
  have hb : Below u.heap.size u (u.alloc (.cells #[x, y, z] 37)) := (Below.refl _ _).alloc (Nat.le_refl _) _
  exact ⟨F, X.later hb h1, h2.later hb, h3, h4, h5, Bel.call h6 (Nat.le_refl _) hb, fun hF => by have := X.lt h1 _ hF; omega, row_made _ _ _ _ _ rfl rfl⟩
/-- package road's tick -/
theorem side_tick {X : RoadFace} (hT : RTickSaid X) {w : World} {a : Addr} {g gs cs : Nat} {sp : List Value} {R0 : Road} (hr : ∀ k, RightR (ticksR R0 k)) {i k : Nat} {rv : Value} {gw : Nat} {xs : List Value} {u : World} (h : SideW X w a g gs cs sp R0 i k rv gw xs u) :
    Calls Tryd.prog 8 #[.pointer (some a)] u fun e w' => e = .returned (.agg #[.int .i64 (goneK R0 i).1, .int .i64 (goneK R0 i).2.1, .int .i64 (goneK R0 i).2.2]) ∧ SideW X w a g gs cs sp R0 (i + 1) k rv gw xs w' := by
  obtain ⟨F, h1, h2, h3, h4, h5, h6, h7, h8⟩ := h
  refine (hT _ F _ u h1 (hr i)).mono ?_
  rintro e w' ⟨rfl, F', hi', hF', hbut⟩
  have hs : w.heap.size ≤ u.heap.size := h6.size
  refine ⟨by rw [goneV_K], F', hi', h2.keep (fun b hb => hbut.2 b (h2.lt b hb) (fun hf => h3 b hf hb)), fun b hb hF => ?_, fun b hb => ?_, h5, h6.trans (hbut.below h4 hs), fun hb => ?_, ?_⟩
  · rcases hF' b hb with h | h
    · exact h3 b h hF
    · have := h2.lt b hF; omega
  · rcases hF' b hb with h | h
    · exact h4 b h
    · omega
  · rcases hF' _ hb with h | h
    · exact h7 h
    · have := h8.lt; omega
  · unfold RowAt
    rw [hbut.2 gw h8.lt h7]; exact h8
/-- a row that the call owns, of elements of so many cells -/
theorem owns_rowN {w : World} {base n c m : Nat} {T : TypeId} {a : Option Addr} {xs : List Value} (hn : 0 < n) (h : w.ownsRow base T m (.slice a n c) n xs) : ∃ g sp, a = some ⟨g, 0, none⟩ ∧ base ≤ g ∧ n ≤ c ∧ RowAt w g T (xs ++ sp) := by
  rcases h.2 with ⟨_, h0⟩ | ⟨g, cap, cur, hv, hb, hg, hc, hm, hs, ht⟩
  · omega
  · simp only [Value.slice.injEq] at hv
    refine ⟨g, cur.toList.drop (n * m), hv.1, hb, by rw [hv.2.2]; exact hc, ?_⟩
    unfold RowAt
    rw [hg, ← ht, List.take_append_drop]
theorem flatS_cell {w : World} {b off : Nat} {l : List Src} (h : ∀ i, i < l.length → SrcAt w b (off + i * 4) (sAt l i)) : ∀ j u, (flatS l)[j]? = some u → w.cell? ((⟨b, off, none⟩ : Addr).add j) = some u := by
  intro j u hj
  rw [add_addr]
  have hl : j < (flatS l).length := (List.getElem?_eq_some_iff.1 hj).1
  rw [flatS_length] at hl
  have hq : j / 4 < l.length := by omega
  obtain ⟨s0, s1, s2, s3⟩ := h (j / 4) hq
  obtain ⟨f0, f1, f2, f3⟩ := flatS_at l [] (j / 4) hq
  rw [List.append_nil] at f0 f1 f2 f3
  have hm : j = j / 4 * 4 ∨ j = j / 4 * 4 + 1 ∨ j = j / 4 * 4 + 2 ∨ j = j / 4 * 4 + 3 := by omega
  generalize j / 4 = q at *
  rcases hm with rfl | rfl | rfl | rfl
  · rw [f0] at hj; rw [s0]; exact hj
  · rw [f1] at hj; rw [← Nat.add_assoc, s1]; exact hj
  · rw [f2] at hj; rw [← Nat.add_assoc, s2]; exact hj
  · rw [f3] at hj; rw [← Nat.add_assoc, s3]; exact hj
theorem flatS_one (l : List Src) : ∀ u ∈ flatS l, u.oneCell' = true := by
  induction l with
  | nil => intro u hu; simp [flatS] at hu
  | cons s r ih =>
    intro u hu
    simp only [flatS, List.mem_cons] at hu
    rcases hu with rfl | rfl | rfl | rfl | hu
    · rfl
    · rfl
    · rfl
    · rfl
    · exact ih u hu
theorem infoSrc : (Tryd.prog.info? 43).map (fun i => (i.zero, i.size, i.bytes)) = some (some (.agg #[.int .i64 0, .int .i64 0, .int .i64 0, .int .i64 0]), 4, 32) := by kernel_rfl
end Ev
end Go.Proofs.YtkpmjmgmgkdfnajDoor
