/- The law FracTells returns true for every two numbers, two fractions and one number more: package frac tells of each call what the document's own answer is. It stands on package errors' variable errorType being as the program's text lays it (the card ties it). -/
import Derived.Test.YtkkmmmmipjnljaaDoorToldB
import Derived.Test.YtkkmmmmipjnljaaDoorRefA
import Derived.Deep.DeepCutAuto
namespace Go.Proofs.YtkkmmmmipjnljaaDoor
namespace FracTellsLaw
open Go.RowKit Fr
set_option linter.unusedSimpArgs false
set_option linter.unusedVariables false

/-- the test on a number's range, ahead of Times and By -/
def outB (k n lo hi : Int) : Bool := k == 0 && (decide (n < lo) || decide (hi < n))

set_option maxHeartbeats 16000000 in
set_option maxRecDepth 100000 in
theorem walk (p q t b u c n : Int) (w : World) (G_0 : w.cell? ⟨0, 0, none⟩ = some handleV) :
    Calls Tryd.prog 3 #[.int .i64 p, .int .i64 q, .agg #[.int .i64 t, .int .i64 b], .agg #[.int .i64 u, .int .i64 c], .int .i64 n] w fun e w' => e = .returned (.bool true) ∧ Below w.heap.size w w' := by
  have B_0 : Below w.heap.size w w := Below.refl _ _
  have gz_0 : 0 < w.heap.size := World.block_lt_of_cell? _ _ G_0
  have E0 : ∀ k : Int, Ending.returned (.bool (k == k)) = .returned (.bool true) := fun k => by rw [beq_self_eq_true]
  have E1 : Hid (∀ k : Int, Ending.returned (.bool (k == k)) = .returned (.bool true)) := E0
  clear E0
  go_enter Tryd.func3, Tryd.ntmps3
  go_upto_region 3 with fail
  go_cut [40] (fun s40 wc => s40 = .bool (!mayB p q) ∧ Below w.heap.size w wc ∧ wc.cell? ⟨0, 0, none⟩ = some handleV ∧ wc.cell? ⟨w.heap.size, 0, none⟩ = some (.int .i64 (t)) ∧ wc.cell? ⟨w.heap.size, 1, none⟩ = some (.int .i64 (b)) ∧ wc.frozen? ⟨w.heap.size, 0, none⟩ = false ∧ wc.frozen? ⟨w.heap.size, 1, none⟩ = false ∧ wc.cell? ⟨w.heap.size + 1, 0, none⟩ = some (.int .i64 (u)) ∧ wc.cell? ⟨w.heap.size + 1, 1, none⟩ = some (.int .i64 (c)) ∧ wc.frozen? ⟨w.heap.size + 1, 0, none⟩ = false ∧ wc.frozen? ⟨w.heap.size + 1, 1, none⟩ = false ∧ wc.cell? ⟨w.heap.size + 1 + 1, 0, none⟩ = some (.int .i64 (0)) ∧ wc.cell? ⟨w.heap.size + 1 + 1, 1, none⟩ = some (.int .i64 (0)) ∧ wc.frozen? ⟨w.heap.size + 1 + 1, 0, none⟩ = false ∧ wc.frozen? ⟨w.heap.size + 1 + 1, 1, none⟩ = false)
  case first =>
    as_aux_lemma =>
      by_cases h1 : q < 1
      · have HM : Hid (mayB p q = false) := by show mayB p q = false; simp [mayB]; omega
        go_wp2
        go_meet
        case rel =>
          refine ⟨?_, ?_, ?_, ?_, ?_, ?_, ?_, ?_, ?_, ?_, ?_, ?_, ?_, ?_, ?_⟩
          · rw [HM.out]; rfl
          · repeat (first | exact B_0 | refine Below.setCell ?_ (by first | (simp; done) | (simp; omega) | omega) _ | refine Below.alloc ?_ (by first | omega | (simp; done) | (simp; omega)) _ | refine Below.drew ?_)
          · go_simp
          · go_simp
          · go_simp
          · go_simp
          · go_simp
          · go_simp
          · go_simp
          · go_simp
          · go_simp
          · go_simp
          · go_simp
          · go_simp
          · go_simp
      · by_cases h2 : 100000000 < q
        · have HM : Hid (mayB p q = false) := by show mayB p q = false; simp [mayB]; omega
          go_wp2
          go_meet
          case rel =>
            refine ⟨?_, ?_, ?_, ?_, ?_, ?_, ?_, ?_, ?_, ?_, ?_, ?_, ?_, ?_, ?_⟩
            · rw [HM.out]; rfl
            · repeat (first | exact B_0 | refine Below.setCell ?_ (by first | (simp; done) | (simp; omega) | omega) _ | refine Below.alloc ?_ (by first | omega | (simp; done) | (simp; omega)) _ | refine Below.drew ?_)
            · go_simp
            · go_simp
            · go_simp
            · go_simp
            · go_simp
            · go_simp
            · go_simp
            · go_simp
            · go_simp
            · go_simp
            · go_simp
            · go_simp
            · go_simp
        · by_cases h3 : p < -1000000000
          · have HM : Hid (mayB p q = false) := by show mayB p q = false; simp [mayB]; omega
            go_wp2
            go_meet
            case rel =>
              refine ⟨?_, ?_, ?_, ?_, ?_, ?_, ?_, ?_, ?_, ?_, ?_, ?_, ?_, ?_, ?_⟩
              · rw [HM.out]; rfl
              · repeat (first | exact B_0 | refine Below.setCell ?_ (by first | (simp; done) | (simp; omega) | omega) _ | refine Below.alloc ?_ (by first | omega | (simp; done) | (simp; omega)) _ | refine Below.drew ?_)
              · go_simp
              · go_simp
              · go_simp
              · go_simp
              · go_simp
              · go_simp
              · go_simp
              · go_simp
              · go_simp
              · go_simp
              · go_simp
              · go_simp
              · go_simp
          · by_cases h4 : 1000000000 < p
            · have HM : Hid (mayB p q = false) := by show mayB p q = false; simp [mayB]; omega
              have h4' : decide (1000000000 < p) = true := by simpa using h4
              go_wp2
              go_meet
              case rel =>
                refine ⟨?_, ?_, ?_, ?_, ?_, ?_, ?_, ?_, ?_, ?_, ?_, ?_, ?_, ?_, ?_⟩
                · rw [HM.out]; rfl
                · repeat (first | exact B_0 | refine Below.setCell ?_ (by first | (simp; done) | (simp; omega) | omega) _ | refine Below.alloc ?_ (by first | omega | (simp; done) | (simp; omega)) _ | refine Below.drew ?_)
                · go_simp
                · go_simp
                · go_simp
                · go_simp
                · go_simp
                · go_simp
                · go_simp
                · go_simp
                · go_simp
                · go_simp
                · go_simp
                · go_simp
                · go_simp
            · have HM : Hid (mayB p q = true) := by show mayB p q = true; simp [mayB]; omega
              have h4' : decide (1000000000 < p) = false := by simpa using h4
              go_wp2
              go_meet
              case rel =>
                refine ⟨?_, ?_, ?_, ?_, ?_, ?_, ?_, ?_, ?_, ?_, ?_, ?_, ?_, ?_, ?_⟩
                · rw [HM.out]; rfl
                · repeat (first | exact B_0 | refine Below.setCell ?_ (by first | (simp; done) | (simp; omega) | omega) _ | refine Below.alloc ?_ (by first | omega | (simp; done) | (simp; omega)) _ | refine Below.drew ?_)
                · go_simp
                · go_simp
                · go_simp
                · go_simp
                · go_simp
                · go_simp
                · go_simp
                · go_simp
                · go_simp
                · go_simp
                · go_simp
                · go_simp
                · go_simp
  case rest =>
    as_aux_lemma =>
      obtain ⟨w1, rfl⟩ : ∃ x : World, x = wc := ⟨_, rfl⟩
      obtain ⟨rfl, B_1, G_1, a0_1, a1_1, af_1, ag_1, b0_1, b1_1, bf_1, bg_1, s0_1, s1_1, sf_1, sg_1⟩ := hcut
      have az_1 : w.heap.size < w1.heap.size := World.block_lt_of_cell? _ _ a0_1
      have bz_1 : w.heap.size + 1 < w1.heap.size := World.block_lt_of_cell? _ _ b0_1
      have sz_1 : w.heap.size + 1 + 1 < w1.heap.size := World.block_lt_of_cell? _ _ s0_1
      have gz_1 : 0 < w1.heap.size := World.block_lt_of_cell? _ _ G_1
      go_upto_if 40 with fail
      go_cut [11] (fun s11 wc => s11 = .int .i64 (ofE p q) ∧ Below w.heap.size w wc ∧ wc.cell? ⟨0, 0, none⟩ = some handleV ∧ wc.cell? ⟨w.heap.size, 0, none⟩ = some (.int .i64 (t)) ∧ wc.cell? ⟨w.heap.size, 1, none⟩ = some (.int .i64 (b)) ∧ wc.frozen? ⟨w.heap.size, 0, none⟩ = false ∧ wc.frozen? ⟨w.heap.size, 1, none⟩ = false ∧ wc.cell? ⟨w.heap.size + 1, 0, none⟩ = some (.int .i64 (u)) ∧ wc.cell? ⟨w.heap.size + 1, 1, none⟩ = some (.int .i64 (c)) ∧ wc.frozen? ⟨w.heap.size + 1, 0, none⟩ = false ∧ wc.frozen? ⟨w.heap.size + 1, 1, none⟩ = false ∧ wc.cell? ⟨w.heap.size + 1 + 1, 0, none⟩ = some (.int .i64 (ofT p q)) ∧ wc.cell? ⟨w.heap.size + 1 + 1, 1, none⟩ = some (.int .i64 (ofB p q)) ∧ wc.frozen? ⟨w.heap.size + 1 + 1, 0, none⟩ = false ∧ wc.frozen? ⟨w.heap.size + 1 + 1, 1, none⟩ = false)
      case first =>
        as_aux_lemma =>
          cases hm : mayB p q with
          | true =>
            obtain ⟨m1, m2, m3, m4⟩ := mayB_iff.1 hm
            have q0 : (!mayB p q) = false := by rw [hm]; rfl
            have HT : Hid (ofT p q = lowT p q) := by show ofT p q = _; rw [ofT, if_pos hm]
            have HB : Hid (ofB p q = lowB p q) := by show ofB p q = _; rw [ofB, if_pos hm]
            have HE : Hid (ofE p q = 0) := by show ofE p q = _; rw [ofE, if_pos hm]
            clear hm
            go_wp2_with fail
            refine (Low_any p q _ (by omega) (by omega) (by omega) (by omega)).mono ?_
            rintro e w2 ⟨rfl, hb2⟩
            have B_2 : Below w.heap.size w w2 := by
              refine Below.trans ?_ (hb2.mono (by first | exact B_1.size | (have := B_1.size; simp; omega)))
              repeat (first | exact B_1 | refine Below.setCell ?_ (by first | (simp; done) | (simp; omega) | omega) _ | refine Below.alloc ?_ (by first | omega | (simp; done) | (simp; omega)) _ | refine Below.drew ?_)
            have G_2 : w2.cell? ⟨0, 0, none⟩ = some handleV := cell_later hb2 (by go_simp)
            have a0_2 : w2.cell? ⟨w.heap.size, 0, none⟩ = some (.int .i64 (t)) := cell_later hb2 (by go_simp)
            have a1_2 : w2.cell? ⟨w.heap.size, 1, none⟩ = some (.int .i64 (b)) := cell_later hb2 (by go_simp)
            have af_2 : w2.frozen? ⟨w.heap.size, 0, none⟩ = false := (hb2.frozen (p := ⟨w.heap.size, 0, none⟩) (by first | (simp; done) | (simp; omega) | omega)).trans (by go_simp)
            have ag_2 : w2.frozen? ⟨w.heap.size, 1, none⟩ = false := (hb2.frozen (p := ⟨w.heap.size, 1, none⟩) (by first | (simp; done) | (simp; omega) | omega)).trans (by go_simp)
            have az_2 : w.heap.size < w2.heap.size := World.block_lt_of_cell? _ _ a0_2
            have b0_2 : w2.cell? ⟨w.heap.size + 1, 0, none⟩ = some (.int .i64 (u)) := cell_later hb2 (by go_simp)
            have b1_2 : w2.cell? ⟨w.heap.size + 1, 1, none⟩ = some (.int .i64 (c)) := cell_later hb2 (by go_simp)
            have bf_2 : w2.frozen? ⟨w.heap.size + 1, 0, none⟩ = false := (hb2.frozen (p := ⟨w.heap.size + 1, 0, none⟩) (by first | (simp; done) | (simp; omega) | omega)).trans (by go_simp)
            have bg_2 : w2.frozen? ⟨w.heap.size + 1, 1, none⟩ = false := (hb2.frozen (p := ⟨w.heap.size + 1, 1, none⟩) (by first | (simp; done) | (simp; omega) | omega)).trans (by go_simp)
            have bz_2 : w.heap.size + 1 < w2.heap.size := World.block_lt_of_cell? _ _ b0_2
            have s0_2 : w2.cell? ⟨w.heap.size + 1 + 1, 0, none⟩ = some (.int .i64 (0)) := cell_later hb2 (by go_simp)
            have s1_2 : w2.cell? ⟨w.heap.size + 1 + 1, 1, none⟩ = some (.int .i64 (0)) := cell_later hb2 (by go_simp)
            have sf_2 : w2.frozen? ⟨w.heap.size + 1 + 1, 0, none⟩ = false := (hb2.frozen (p := ⟨w.heap.size + 1 + 1, 0, none⟩) (by first | (simp; done) | (simp; omega) | omega)).trans (by go_simp)
            have sg_2 : w2.frozen? ⟨w.heap.size + 1 + 1, 1, none⟩ = false := (hb2.frozen (p := ⟨w.heap.size + 1 + 1, 1, none⟩) (by first | (simp; done) | (simp; omega) | omega)).trans (by go_simp)
            have sz_2 : w.heap.size + 1 + 1 < w2.heap.size := World.block_lt_of_cell? _ _ s0_2
            have gz_2 : 0 < w2.heap.size := World.block_lt_of_cell? _ _ G_2
            clear hb2
            go_wp2
            go_meet
            case rel =>
              refine ⟨?_, ?_, ?_, ?_, ?_, ?_, ?_, ?_, ?_, ?_, ?_, ?_, ?_, ?_, ?_⟩
              · rw [HE.out]
              · repeat (first | exact B_2 | refine Below.setCell ?_ (by first | (simp; done) | (simp; omega) | omega) _ | refine Below.alloc ?_ (by first | omega | (simp; done) | (simp; omega)) _ | refine Below.drew ?_)
              · go_simp
              · go_simp
              · go_simp
              · go_simp
              · go_simp
              · go_simp
              · go_simp
              · go_simp
              · go_simp
              · rw [HT.out]; go_simp
              · rw [HB.out]; go_simp
              · go_simp
              · go_simp
          | false =>
            have q0 : (!mayB p q) = true := by rw [hm]; rfl
            have hn : ¬ mayB p q = true := by rw [hm]; decide
            have HT : Hid (ofT p q = 0) := by show ofT p q = _; rw [ofT, if_neg hn]
            have HB : Hid (ofB p q = 0) := by show ofB p q = _; rw [ofB, if_neg hn]
            have HE : Hid (ofE p q = 1) := by show ofE p q = _; rw [ofE, if_neg hn]
            clear hm hn
            go_wp2
            go_meet
            case rel =>
              refine ⟨?_, ?_, ?_, ?_, ?_, ?_, ?_, ?_, ?_, ?_, ?_, ?_, ?_, ?_, ?_⟩
              · rw [HE.out]
              · repeat (first | exact B_1 | refine Below.setCell ?_ (by first | (simp; done) | (simp; omega) | omega) _ | refine Below.alloc ?_ (by first | omega | (simp; done) | (simp; omega)) _ | refine Below.drew ?_)
              · go_simp
              · go_simp
              · go_simp
              · go_simp
              · go_simp
              · go_simp
              · go_simp
              · go_simp
              · go_simp
              · rw [HT.out]; go_simp
              · rw [HB.out]; go_simp
              · go_simp
              · go_simp
      case rest =>
        as_aux_lemma =>
          obtain ⟨w3, rfl⟩ : ∃ x : World, x = wc := ⟨_, rfl⟩
          obtain ⟨rfl, B_3, G_3, a0_3, a1_3, af_3, ag_3, b0_3, b1_3, bf_3, bg_3, s0_3, s1_3, sf_3, sg_3⟩ := hcut
          have az_3 : w.heap.size < w3.heap.size := World.block_lt_of_cell? _ _ a0_3
          have bz_3 : w.heap.size + 1 < w3.heap.size := World.block_lt_of_cell? _ _ b0_3
          have sz_3 : w.heap.size + 1 + 1 < w3.heap.size := World.block_lt_of_cell? _ _ s0_3
          have gz_3 : 0 < w3.heap.size := World.block_lt_of_cell? _ _ G_3
          clear B_1 G_1 gz_1 a0_1 a1_1 az_1 af_1 ag_1 b0_1 b1_1 bz_1 bf_1 bg_1 s0_1 s1_1 sz_1 sf_1 sg_1
          go_wp2_with fail
          refine (Of_any p q _).mono ?_
          rintro e w4 ⟨rfl, hb4⟩
          rw [pairV]
          have B_4 : Below w.heap.size w w4 := by
            refine Below.trans ?_ (hb4.mono (by first | exact B_3.size | (have := B_3.size; simp; omega)))
            repeat (first | exact B_3 | refine Below.setCell ?_ (by first | (simp; done) | (simp; omega) | omega) _ | refine Below.alloc ?_ (by first | omega | (simp; done) | (simp; omega)) _ | refine Below.drew ?_)
          have G_4 : w4.cell? ⟨0, 0, none⟩ = some handleV := cell_later hb4 (by go_simp)
          have a0_4 : w4.cell? ⟨w.heap.size, 0, none⟩ = some (.int .i64 (t)) := cell_later hb4 (by go_simp)
          have a1_4 : w4.cell? ⟨w.heap.size, 1, none⟩ = some (.int .i64 (b)) := cell_later hb4 (by go_simp)
          have af_4 : w4.frozen? ⟨w.heap.size, 0, none⟩ = false := (hb4.frozen (p := ⟨w.heap.size, 0, none⟩) (by first | (simp; done) | (simp; omega) | omega)).trans (by go_simp)
          have ag_4 : w4.frozen? ⟨w.heap.size, 1, none⟩ = false := (hb4.frozen (p := ⟨w.heap.size, 1, none⟩) (by first | (simp; done) | (simp; omega) | omega)).trans (by go_simp)
          have az_4 : w.heap.size < w4.heap.size := World.block_lt_of_cell? _ _ a0_4
          have b0_4 : w4.cell? ⟨w.heap.size + 1, 0, none⟩ = some (.int .i64 (u)) := cell_later hb4 (by go_simp)
          have b1_4 : w4.cell? ⟨w.heap.size + 1, 1, none⟩ = some (.int .i64 (c)) := cell_later hb4 (by go_simp)
          have bf_4 : w4.frozen? ⟨w.heap.size + 1, 0, none⟩ = false := (hb4.frozen (p := ⟨w.heap.size + 1, 0, none⟩) (by first | (simp; done) | (simp; omega) | omega)).trans (by go_simp)
          have bg_4 : w4.frozen? ⟨w.heap.size + 1, 1, none⟩ = false := (hb4.frozen (p := ⟨w.heap.size + 1, 1, none⟩) (by first | (simp; done) | (simp; omega) | omega)).trans (by go_simp)
          have bz_4 : w.heap.size + 1 < w4.heap.size := World.block_lt_of_cell? _ _ b0_4
          have s0_4 : w4.cell? ⟨w.heap.size + 1 + 1, 0, none⟩ = some (.int .i64 (ofT p q)) := cell_later hb4 (by go_simp)
          have s1_4 : w4.cell? ⟨w.heap.size + 1 + 1, 1, none⟩ = some (.int .i64 (ofB p q)) := cell_later hb4 (by go_simp)
          have sf_4 : w4.frozen? ⟨w.heap.size + 1 + 1, 0, none⟩ = false := (hb4.frozen (p := ⟨w.heap.size + 1 + 1, 0, none⟩) (by first | (simp; done) | (simp; omega) | omega)).trans (by go_simp)
          have sg_4 : w4.frozen? ⟨w.heap.size + 1 + 1, 1, none⟩ = false := (hb4.frozen (p := ⟨w.heap.size + 1 + 1, 1, none⟩) (by first | (simp; done) | (simp; omega) | omega)).trans (by go_simp)
          have sz_4 : w.heap.size + 1 + 1 < w4.heap.size := World.block_lt_of_cell? _ _ s0_4
          have gz_4 : 0 < w4.heap.size := World.block_lt_of_cell? _ _ G_4
          clear hb4 B_3 G_3 gz_3 a0_3 a1_3 az_3 af_3 ag_3 b0_3 b1_3 bz_3 bf_3 bg_3 s0_3 s1_3 sz_3 sf_3 sg_3
          have xa : ¬ w.heap.size = w4.heap.size := by omega
          have xb : ¬ w.heap.size + 1 = w4.heap.size := by omega
          have xs : ¬ w.heap.size + 1 + 1 = w4.heap.size := by omega
          have xa' : ¬ w4.heap.size = w.heap.size := by omega
          have xb' : ¬ w4.heap.size = w.heap.size + 1 := by omega
          have xs' : ¬ w4.heap.size = w.heap.size + 1 + 1 := by omega
          have xg : ¬ 0 = w4.heap.size := by omega
          have xg' : ¬ w4.heap.size = 0 := by omega
          have xge : w.heap.size ≤ w4.heap.size := by omega
          go_wp2_with fail
          refine (Error_any (ofE p q) (ofE p q) _ (by go_simp)).mono ?_
          rintro e w5 ⟨rfl, hb5⟩
          rw [E1.out]
          have B_5 : Below w.heap.size w w5 := by
            refine Below.trans ?_ (hb5.mono (by first | exact B_4.size | (have := B_4.size; simp; omega)))
            repeat (first | exact B_4 | refine Below.setCell ?_ (by first | (simp; done) | (simp; omega) | omega) _ | refine Below.alloc ?_ (by first | omega | (simp; done) | (simp; omega)) _ | refine Below.drew ?_)
          have G_5 : w5.cell? ⟨0, 0, none⟩ = some handleV := cell_later hb5 (by go_simp)
          have a0_5 : w5.cell? ⟨w.heap.size, 0, none⟩ = some (.int .i64 (t)) := cell_later hb5 (by go_simp)
          have a1_5 : w5.cell? ⟨w.heap.size, 1, none⟩ = some (.int .i64 (b)) := cell_later hb5 (by go_simp)
          have af_5 : w5.frozen? ⟨w.heap.size, 0, none⟩ = false := (hb5.frozen (p := ⟨w.heap.size, 0, none⟩) (by first | (simp; done) | (simp; omega) | omega)).trans (by go_simp)
          have ag_5 : w5.frozen? ⟨w.heap.size, 1, none⟩ = false := (hb5.frozen (p := ⟨w.heap.size, 1, none⟩) (by first | (simp; done) | (simp; omega) | omega)).trans (by go_simp)
          have az_5 : w.heap.size < w5.heap.size := World.block_lt_of_cell? _ _ a0_5
          have b0_5 : w5.cell? ⟨w.heap.size + 1, 0, none⟩ = some (.int .i64 (u)) := cell_later hb5 (by go_simp)
          have b1_5 : w5.cell? ⟨w.heap.size + 1, 1, none⟩ = some (.int .i64 (c)) := cell_later hb5 (by go_simp)
          have bf_5 : w5.frozen? ⟨w.heap.size + 1, 0, none⟩ = false := (hb5.frozen (p := ⟨w.heap.size + 1, 0, none⟩) (by first | (simp; done) | (simp; omega) | omega)).trans (by go_simp)
          have bg_5 : w5.frozen? ⟨w.heap.size + 1, 1, none⟩ = false := (hb5.frozen (p := ⟨w.heap.size + 1, 1, none⟩) (by first | (simp; done) | (simp; omega) | omega)).trans (by go_simp)
          have bz_5 : w.heap.size + 1 < w5.heap.size := World.block_lt_of_cell? _ _ b0_5
          have s0_5 : w5.cell? ⟨w.heap.size + 1 + 1, 0, none⟩ = some (.int .i64 (ofT p q)) := cell_later hb5 (by go_simp)
          have s1_5 : w5.cell? ⟨w.heap.size + 1 + 1, 1, none⟩ = some (.int .i64 (ofB p q)) := cell_later hb5 (by go_simp)
          have sf_5 : w5.frozen? ⟨w.heap.size + 1 + 1, 0, none⟩ = false := (hb5.frozen (p := ⟨w.heap.size + 1 + 1, 0, none⟩) (by first | (simp; done) | (simp; omega) | omega)).trans (by go_simp)
          have sg_5 : w5.frozen? ⟨w.heap.size + 1 + 1, 1, none⟩ = false := (hb5.frozen (p := ⟨w.heap.size + 1 + 1, 1, none⟩) (by first | (simp; done) | (simp; omega) | omega)).trans (by go_simp)
          have sz_5 : w.heap.size + 1 + 1 < w5.heap.size := World.block_lt_of_cell? _ _ s0_5
          have x0_5 : w5.cell? ⟨w4.heap.size, 0, none⟩ = some (.int .i64 (ofT p q)) := cell_later hb5 (by go_simp)
          have x1_5 : w5.cell? ⟨w4.heap.size, 1, none⟩ = some (.int .i64 (ofB p q)) := cell_later hb5 (by go_simp)
          have xf_5 : w5.frozen? ⟨w4.heap.size, 0, none⟩ = false := (hb5.frozen (p := ⟨w4.heap.size, 0, none⟩) (by first | (simp; done) | (simp; omega) | omega)).trans (by go_simp)
          have xg_5 : w5.frozen? ⟨w4.heap.size, 1, none⟩ = false := (hb5.frozen (p := ⟨w4.heap.size, 1, none⟩) (by first | (simp; done) | (simp; omega) | omega)).trans (by go_simp)
          have xz_5 : w4.heap.size < w5.heap.size := World.block_lt_of_cell? _ _ x0_5
          have gz_5 : 0 < w5.heap.size := World.block_lt_of_cell? _ _ G_5
          clear hb5 B_4 G_4 gz_4 a0_4 a1_4 az_4 af_4 ag_4 b0_4 b1_4 bz_4 bf_4 bg_4 s0_4 s1_4 sz_4 sf_4 sg_4
          go_wp2_with fail
          refine (RFrac_any t b _).mono ?_
          rintro e w6 ⟨rfl, hb6⟩
          have B_6 : Below w.heap.size w w6 := by
            refine Below.trans ?_ (hb6.mono (by first | exact B_5.size | (have := B_5.size; simp; omega)))
            repeat (first | exact B_5 | refine Below.setCell ?_ (by first | (simp; done) | (simp; omega) | omega) _ | refine Below.alloc ?_ (by first | omega | (simp; done) | (simp; omega)) _ | refine Below.drew ?_)
          have G_6 : w6.cell? ⟨0, 0, none⟩ = some handleV := cell_later hb6 (by go_simp)
          have a0_6 : w6.cell? ⟨w.heap.size, 0, none⟩ = some (.int .i64 (t)) := cell_later hb6 (by go_simp)
          have a1_6 : w6.cell? ⟨w.heap.size, 1, none⟩ = some (.int .i64 (b)) := cell_later hb6 (by go_simp)
          have af_6 : w6.frozen? ⟨w.heap.size, 0, none⟩ = false := (hb6.frozen (p := ⟨w.heap.size, 0, none⟩) (by first | (simp; done) | (simp; omega) | omega)).trans (by go_simp)
          have ag_6 : w6.frozen? ⟨w.heap.size, 1, none⟩ = false := (hb6.frozen (p := ⟨w.heap.size, 1, none⟩) (by first | (simp; done) | (simp; omega) | omega)).trans (by go_simp)
          have az_6 : w.heap.size < w6.heap.size := World.block_lt_of_cell? _ _ a0_6
          have b0_6 : w6.cell? ⟨w.heap.size + 1, 0, none⟩ = some (.int .i64 (u)) := cell_later hb6 (by go_simp)
          have b1_6 : w6.cell? ⟨w.heap.size + 1, 1, none⟩ = some (.int .i64 (c)) := cell_later hb6 (by go_simp)
          have bf_6 : w6.frozen? ⟨w.heap.size + 1, 0, none⟩ = false := (hb6.frozen (p := ⟨w.heap.size + 1, 0, none⟩) (by first | (simp; done) | (simp; omega) | omega)).trans (by go_simp)
          have bg_6 : w6.frozen? ⟨w.heap.size + 1, 1, none⟩ = false := (hb6.frozen (p := ⟨w.heap.size + 1, 1, none⟩) (by first | (simp; done) | (simp; omega) | omega)).trans (by go_simp)
          have bz_6 : w.heap.size + 1 < w6.heap.size := World.block_lt_of_cell? _ _ b0_6
          have s0_6 : w6.cell? ⟨w.heap.size + 1 + 1, 0, none⟩ = some (.int .i64 (ofT p q)) := cell_later hb6 (by go_simp)
          have s1_6 : w6.cell? ⟨w.heap.size + 1 + 1, 1, none⟩ = some (.int .i64 (ofB p q)) := cell_later hb6 (by go_simp)
          have sf_6 : w6.frozen? ⟨w.heap.size + 1 + 1, 0, none⟩ = false := (hb6.frozen (p := ⟨w.heap.size + 1 + 1, 0, none⟩) (by first | (simp; done) | (simp; omega) | omega)).trans (by go_simp)
          have sg_6 : w6.frozen? ⟨w.heap.size + 1 + 1, 1, none⟩ = false := (hb6.frozen (p := ⟨w.heap.size + 1 + 1, 1, none⟩) (by first | (simp; done) | (simp; omega) | omega)).trans (by go_simp)
          have sz_6 : w.heap.size + 1 + 1 < w6.heap.size := World.block_lt_of_cell? _ _ s0_6
          have x0_6 : w6.cell? ⟨w4.heap.size, 0, none⟩ = some (.int .i64 (ofT p q)) := cell_later hb6 (by go_simp)
          have x1_6 : w6.cell? ⟨w4.heap.size, 1, none⟩ = some (.int .i64 (ofB p q)) := cell_later hb6 (by go_simp)
          have xf_6 : w6.frozen? ⟨w4.heap.size, 0, none⟩ = false := (hb6.frozen (p := ⟨w4.heap.size, 0, none⟩) (by first | (simp; done) | (simp; omega) | omega)).trans (by go_simp)
          have xg_6 : w6.frozen? ⟨w4.heap.size, 1, none⟩ = false := (hb6.frozen (p := ⟨w4.heap.size, 1, none⟩) (by first | (simp; done) | (simp; omega) | omega)).trans (by go_simp)
          have xz_6 : w4.heap.size < w6.heap.size := World.block_lt_of_cell? _ _ x0_6
          have gz_6 : 0 < w6.heap.size := World.block_lt_of_cell? _ _ G_6
          clear hb6 B_5 G_5 gz_5 a0_5 a1_5 az_5 af_5 ag_5 b0_5 b1_5 bz_5 bf_5 bg_5 s0_5 s1_5 sz_5 sf_5 sg_5 x0_5 x1_5 xz_5 xf_5 xg_5
          go_wp2_with fail
          refine (Check_any t b _).mono ?_
          rintro e w7 ⟨rfl, hb7⟩
          have B_7 : Below w.heap.size w w7 := by
            refine Below.trans ?_ (hb7.mono (by first | exact B_6.size | (have := B_6.size; simp; omega)))
            repeat (first | exact B_6 | refine Below.setCell ?_ (by first | (simp; done) | (simp; omega) | omega) _ | refine Below.alloc ?_ (by first | omega | (simp; done) | (simp; omega)) _ | refine Below.drew ?_)
          have G_7 : w7.cell? ⟨0, 0, none⟩ = some handleV := cell_later hb7 (by go_simp)
          have a0_7 : w7.cell? ⟨w.heap.size, 0, none⟩ = some (.int .i64 (t)) := cell_later hb7 (by go_simp)
          have a1_7 : w7.cell? ⟨w.heap.size, 1, none⟩ = some (.int .i64 (b)) := cell_later hb7 (by go_simp)
          have af_7 : w7.frozen? ⟨w.heap.size, 0, none⟩ = false := (hb7.frozen (p := ⟨w.heap.size, 0, none⟩) (by first | (simp; done) | (simp; omega) | omega)).trans (by go_simp)
          have ag_7 : w7.frozen? ⟨w.heap.size, 1, none⟩ = false := (hb7.frozen (p := ⟨w.heap.size, 1, none⟩) (by first | (simp; done) | (simp; omega) | omega)).trans (by go_simp)
          have az_7 : w.heap.size < w7.heap.size := World.block_lt_of_cell? _ _ a0_7
          have b0_7 : w7.cell? ⟨w.heap.size + 1, 0, none⟩ = some (.int .i64 (u)) := cell_later hb7 (by go_simp)
          have b1_7 : w7.cell? ⟨w.heap.size + 1, 1, none⟩ = some (.int .i64 (c)) := cell_later hb7 (by go_simp)
          have bf_7 : w7.frozen? ⟨w.heap.size + 1, 0, none⟩ = false := (hb7.frozen (p := ⟨w.heap.size + 1, 0, none⟩) (by first | (simp; done) | (simp; omega) | omega)).trans (by go_simp)
          have bg_7 : w7.frozen? ⟨w.heap.size + 1, 1, none⟩ = false := (hb7.frozen (p := ⟨w.heap.size + 1, 1, none⟩) (by first | (simp; done) | (simp; omega) | omega)).trans (by go_simp)
          have bz_7 : w.heap.size + 1 < w7.heap.size := World.block_lt_of_cell? _ _ b0_7
          have s0_7 : w7.cell? ⟨w.heap.size + 1 + 1, 0, none⟩ = some (.int .i64 (ofT p q)) := cell_later hb7 (by go_simp)
          have s1_7 : w7.cell? ⟨w.heap.size + 1 + 1, 1, none⟩ = some (.int .i64 (ofB p q)) := cell_later hb7 (by go_simp)
          have sf_7 : w7.frozen? ⟨w.heap.size + 1 + 1, 0, none⟩ = false := (hb7.frozen (p := ⟨w.heap.size + 1 + 1, 0, none⟩) (by first | (simp; done) | (simp; omega) | omega)).trans (by go_simp)
          have sg_7 : w7.frozen? ⟨w.heap.size + 1 + 1, 1, none⟩ = false := (hb7.frozen (p := ⟨w.heap.size + 1 + 1, 1, none⟩) (by first | (simp; done) | (simp; omega) | omega)).trans (by go_simp)
          have sz_7 : w.heap.size + 1 + 1 < w7.heap.size := World.block_lt_of_cell? _ _ s0_7
          have x0_7 : w7.cell? ⟨w4.heap.size, 0, none⟩ = some (.int .i64 (ofT p q)) := cell_later hb7 (by go_simp)
          have x1_7 : w7.cell? ⟨w4.heap.size, 1, none⟩ = some (.int .i64 (ofB p q)) := cell_later hb7 (by go_simp)
          have xf_7 : w7.frozen? ⟨w4.heap.size, 0, none⟩ = false := (hb7.frozen (p := ⟨w4.heap.size, 0, none⟩) (by first | (simp; done) | (simp; omega) | omega)).trans (by go_simp)
          have xg_7 : w7.frozen? ⟨w4.heap.size, 1, none⟩ = false := (hb7.frozen (p := ⟨w4.heap.size, 1, none⟩) (by first | (simp; done) | (simp; omega) | omega)).trans (by go_simp)
          have xz_7 : w4.heap.size < w7.heap.size := World.block_lt_of_cell? _ _ x0_7
          have gz_7 : 0 < w7.heap.size := World.block_lt_of_cell? _ _ G_7
          clear hb7 B_6 G_6 gz_6 a0_6 a1_6 az_6 af_6 ag_6 b0_6 b1_6 bz_6 bf_6 bg_6 s0_6 s1_6 sz_6 sf_6 sg_6 x0_6 x1_6 xz_6 xf_6 xg_6
          go_wp2_with fail
          refine (Error_any (fault t b) (fault t b) _ (by go_simp)).mono ?_
          rintro e w8 ⟨rfl, hb8⟩
          rw [E1.out]
          have B_8 : Below w.heap.size w w8 := by
            refine Below.trans ?_ (hb8.mono (by first | exact B_7.size | (have := B_7.size; simp; omega)))
            repeat (first | exact B_7 | refine Below.setCell ?_ (by first | (simp; done) | (simp; omega) | omega) _ | refine Below.alloc ?_ (by first | omega | (simp; done) | (simp; omega)) _ | refine Below.drew ?_)
          have G_8 : w8.cell? ⟨0, 0, none⟩ = some handleV := cell_later hb8 (by go_simp)
          have a0_8 : w8.cell? ⟨w.heap.size, 0, none⟩ = some (.int .i64 (t)) := cell_later hb8 (by go_simp)
          have a1_8 : w8.cell? ⟨w.heap.size, 1, none⟩ = some (.int .i64 (b)) := cell_later hb8 (by go_simp)
          have af_8 : w8.frozen? ⟨w.heap.size, 0, none⟩ = false := (hb8.frozen (p := ⟨w.heap.size, 0, none⟩) (by first | (simp; done) | (simp; omega) | omega)).trans (by go_simp)
          have ag_8 : w8.frozen? ⟨w.heap.size, 1, none⟩ = false := (hb8.frozen (p := ⟨w.heap.size, 1, none⟩) (by first | (simp; done) | (simp; omega) | omega)).trans (by go_simp)
          have az_8 : w.heap.size < w8.heap.size := World.block_lt_of_cell? _ _ a0_8
          have b0_8 : w8.cell? ⟨w.heap.size + 1, 0, none⟩ = some (.int .i64 (u)) := cell_later hb8 (by go_simp)
          have b1_8 : w8.cell? ⟨w.heap.size + 1, 1, none⟩ = some (.int .i64 (c)) := cell_later hb8 (by go_simp)
          have bf_8 : w8.frozen? ⟨w.heap.size + 1, 0, none⟩ = false := (hb8.frozen (p := ⟨w.heap.size + 1, 0, none⟩) (by first | (simp; done) | (simp; omega) | omega)).trans (by go_simp)
          have bg_8 : w8.frozen? ⟨w.heap.size + 1, 1, none⟩ = false := (hb8.frozen (p := ⟨w.heap.size + 1, 1, none⟩) (by first | (simp; done) | (simp; omega) | omega)).trans (by go_simp)
          have bz_8 : w.heap.size + 1 < w8.heap.size := World.block_lt_of_cell? _ _ b0_8
          have s0_8 : w8.cell? ⟨w.heap.size + 1 + 1, 0, none⟩ = some (.int .i64 (ofT p q)) := cell_later hb8 (by go_simp)
          have s1_8 : w8.cell? ⟨w.heap.size + 1 + 1, 1, none⟩ = some (.int .i64 (ofB p q)) := cell_later hb8 (by go_simp)
          have sf_8 : w8.frozen? ⟨w.heap.size + 1 + 1, 0, none⟩ = false := (hb8.frozen (p := ⟨w.heap.size + 1 + 1, 0, none⟩) (by first | (simp; done) | (simp; omega) | omega)).trans (by go_simp)
          have sg_8 : w8.frozen? ⟨w.heap.size + 1 + 1, 1, none⟩ = false := (hb8.frozen (p := ⟨w.heap.size + 1 + 1, 1, none⟩) (by first | (simp; done) | (simp; omega) | omega)).trans (by go_simp)
          have sz_8 : w.heap.size + 1 + 1 < w8.heap.size := World.block_lt_of_cell? _ _ s0_8
          have x0_8 : w8.cell? ⟨w4.heap.size, 0, none⟩ = some (.int .i64 (ofT p q)) := cell_later hb8 (by go_simp)
          have x1_8 : w8.cell? ⟨w4.heap.size, 1, none⟩ = some (.int .i64 (ofB p q)) := cell_later hb8 (by go_simp)
          have xf_8 : w8.frozen? ⟨w4.heap.size, 0, none⟩ = false := (hb8.frozen (p := ⟨w4.heap.size, 0, none⟩) (by first | (simp; done) | (simp; omega) | omega)).trans (by go_simp)
          have xg_8 : w8.frozen? ⟨w4.heap.size, 1, none⟩ = false := (hb8.frozen (p := ⟨w4.heap.size, 1, none⟩) (by first | (simp; done) | (simp; omega) | omega)).trans (by go_simp)
          have xz_8 : w4.heap.size < w8.heap.size := World.block_lt_of_cell? _ _ x0_8
          have gz_8 : 0 < w8.heap.size := World.block_lt_of_cell? _ _ G_8
          clear hb8 B_7 G_7 gz_7 a0_7 a1_7 az_7 af_7 ag_7 b0_7 b1_7 bz_7 bf_7 bg_7 s0_7 s1_7 sz_7 sf_7 sg_7 x0_7 x1_7 xz_7 xf_7 xg_7
          obtain ⟨ob75, hob75⟩ : ∃ o, Hid (outB (fault t b) n (-1000) 1000 = o) := ⟨_, rfl⟩
          go_upto_region 12 with fail
          go_cut [75] (fun s75 wc => s75 = .bool ob75 ∧ Below w.heap.size w wc ∧ wc.cell? ⟨0, 0, none⟩ = some handleV ∧ wc.cell? ⟨w.heap.size, 0, none⟩ = some (.int .i64 (t)) ∧ wc.cell? ⟨w.heap.size, 1, none⟩ = some (.int .i64 (b)) ∧ wc.frozen? ⟨w.heap.size, 0, none⟩ = false ∧ wc.frozen? ⟨w.heap.size, 1, none⟩ = false ∧ wc.cell? ⟨w.heap.size + 1, 0, none⟩ = some (.int .i64 (u)) ∧ wc.cell? ⟨w.heap.size + 1, 1, none⟩ = some (.int .i64 (c)) ∧ wc.frozen? ⟨w.heap.size + 1, 0, none⟩ = false ∧ wc.frozen? ⟨w.heap.size + 1, 1, none⟩ = false ∧ wc.cell? ⟨w.heap.size + 1 + 1, 0, none⟩ = some (.int .i64 (0)) ∧ wc.cell? ⟨w.heap.size + 1 + 1, 1, none⟩ = some (.int .i64 (0)) ∧ wc.frozen? ⟨w.heap.size + 1 + 1, 0, none⟩ = false ∧ wc.frozen? ⟨w.heap.size + 1 + 1, 1, none⟩ = false ∧ wc.cell? ⟨w4.heap.size, 0, none⟩ = some (.int .i64 (ofT p q)) ∧ wc.cell? ⟨w4.heap.size, 1, none⟩ = some (.int .i64 (ofB p q)) ∧ wc.frozen? ⟨w4.heap.size, 0, none⟩ = false ∧ wc.frozen? ⟨w4.heap.size, 1, none⟩ = false)
          case first =>
            as_aux_lemma =>
              by_cases h0 : fault t b = 0
              · have qf : (fault t b == 0) = true := beq_iff_eq.2 h0
                clear h0
                by_cases h1 : n < -1000
                · have HM : Hid (outB (fault t b) n (-1000) 1000 = true) := by show outB _ _ _ _ = true; rw [outB, qf]; simp [h1]
                  go_wp2
                  go_meet
                  case rel =>
                    refine ⟨?_, ?_, ?_, ?_, ?_, ?_, ?_, ?_, ?_, ?_, ?_, ?_, ?_, ?_, ?_, ?_, ?_, ?_, ?_⟩
                    · rw [← hob75.out, HM.out]
                    · repeat (first | exact B_8 | refine Below.setCell ?_ (by first | (simp; done) | (simp; omega) | omega) _ | refine Below.alloc ?_ (by first | omega | (simp; done) | (simp; omega)) _ | refine Below.drew ?_)
                    · go_simp
                    · go_simp
                    · go_simp
                    · go_simp
                    · go_simp
                    · go_simp
                    · go_simp
                    · go_simp
                    · go_simp
                    · go_simp
                    · go_simp
                    · go_simp
                    · go_simp
                    · go_simp
                    · go_simp
                    · go_simp
                    · go_simp
                · by_cases h2 : 1000 < n
                  · have HM : Hid (outB (fault t b) n (-1000) 1000 = true) := by show outB _ _ _ _ = true; rw [outB, qf]; simp [h2]
                    have h2' : decide (1000 < n) = true := by simpa using h2
                    go_wp2
                    go_meet
                    case rel =>
                      refine ⟨?_, ?_, ?_, ?_, ?_, ?_, ?_, ?_, ?_, ?_, ?_, ?_, ?_, ?_, ?_, ?_, ?_, ?_, ?_⟩
                      · rw [← hob75.out, HM.out]
                      · repeat (first | exact B_8 | refine Below.setCell ?_ (by first | (simp; done) | (simp; omega) | omega) _ | refine Below.alloc ?_ (by first | omega | (simp; done) | (simp; omega)) _ | refine Below.drew ?_)
                      · go_simp
                      · go_simp
                      · go_simp
                      · go_simp
                      · go_simp
                      · go_simp
                      · go_simp
                      · go_simp
                      · go_simp
                      · go_simp
                      · go_simp
                      · go_simp
                      · go_simp
                      · go_simp
                      · go_simp
                      · go_simp
                      · go_simp
                  · have HM : Hid (outB (fault t b) n (-1000) 1000 = false) := by show outB _ _ _ _ = false; rw [outB, qf]; simp; omega
                    have h2' : decide (1000 < n) = false := by simpa using h2
                    go_wp2
                    go_meet
                    case rel =>
                      refine ⟨?_, ?_, ?_, ?_, ?_, ?_, ?_, ?_, ?_, ?_, ?_, ?_, ?_, ?_, ?_, ?_, ?_, ?_, ?_⟩
                      · rw [← hob75.out, HM.out]
                      · repeat (first | exact B_8 | refine Below.setCell ?_ (by first | (simp; done) | (simp; omega) | omega) _ | refine Below.alloc ?_ (by first | omega | (simp; done) | (simp; omega)) _ | refine Below.drew ?_)
                      · go_simp
                      · go_simp
                      · go_simp
                      · go_simp
                      · go_simp
                      · go_simp
                      · go_simp
                      · go_simp
                      · go_simp
                      · go_simp
                      · go_simp
                      · go_simp
                      · go_simp
                      · go_simp
                      · go_simp
                      · go_simp
                      · go_simp
              · have qf : (fault t b == 0) = false := beq_eq_false_iff_ne.2 h0
                have HM : Hid (outB (fault t b) n (-1000) 1000 = false) := by show outB _ _ _ _ = false; rw [outB, qf]; rfl
                clear h0
                go_wp2
                go_meet
                case rel =>
                  refine ⟨?_, ?_, ?_, ?_, ?_, ?_, ?_, ?_, ?_, ?_, ?_, ?_, ?_, ?_, ?_, ?_, ?_, ?_, ?_⟩
                  · rw [← hob75.out, HM.out]
                  · repeat (first | exact B_8 | refine Below.setCell ?_ (by first | (simp; done) | (simp; omega) | omega) _ | refine Below.alloc ?_ (by first | omega | (simp; done) | (simp; omega)) _ | refine Below.drew ?_)
                  · go_simp
                  · go_simp
                  · go_simp
                  · go_simp
                  · go_simp
                  · go_simp
                  · go_simp
                  · go_simp
                  · go_simp
                  · go_simp
                  · go_simp
                  · go_simp
                  · go_simp
                  · go_simp
                  · go_simp
                  · go_simp
                  · go_simp
          case rest =>
            as_aux_lemma =>
              obtain ⟨w9, rfl⟩ : ∃ x : World, x = wc := ⟨_, rfl⟩
              obtain ⟨rfl, B_9, G_9, a0_9, a1_9, af_9, ag_9, b0_9, b1_9, bf_9, bg_9, s0_9, s1_9, sf_9, sg_9, x0_9, x1_9, xf_9, xg_9⟩ := hcut
              have az_9 : w.heap.size < w9.heap.size := World.block_lt_of_cell? _ _ a0_9
              have bz_9 : w.heap.size + 1 < w9.heap.size := World.block_lt_of_cell? _ _ b0_9
              have sz_9 : w.heap.size + 1 + 1 < w9.heap.size := World.block_lt_of_cell? _ _ s0_9
              have xz_9 : w4.heap.size < w9.heap.size := World.block_lt_of_cell? _ _ x0_9
              have gz_9 : 0 < w9.heap.size := World.block_lt_of_cell? _ _ G_9
              clear B_8 G_8 gz_8 a0_8 a1_8 az_8 af_8 ag_8 b0_8 b1_8 bz_8 bf_8 bg_8 s0_8 s1_8 sz_8 sf_8 sg_8 x0_8 x1_8 xz_8 xf_8 xg_8
              go_upto_if 75 with fail
              go_cut [11] (fun s11 wc => s11 = .int .i64 (timesE t b n) ∧ Below w.heap.size w wc ∧ wc.cell? ⟨0, 0, none⟩ = some handleV ∧ wc.cell? ⟨w.heap.size, 0, none⟩ = some (.int .i64 (t)) ∧ wc.cell? ⟨w.heap.size, 1, none⟩ = some (.int .i64 (b)) ∧ wc.frozen? ⟨w.heap.size, 0, none⟩ = false ∧ wc.frozen? ⟨w.heap.size, 1, none⟩ = false ∧ wc.cell? ⟨w.heap.size + 1, 0, none⟩ = some (.int .i64 (u)) ∧ wc.cell? ⟨w.heap.size + 1, 1, none⟩ = some (.int .i64 (c)) ∧ wc.frozen? ⟨w.heap.size + 1, 0, none⟩ = false ∧ wc.frozen? ⟨w.heap.size + 1, 1, none⟩ = false ∧ wc.cell? ⟨w.heap.size + 1 + 1, 0, none⟩ = some (.int .i64 (timesT t b n)) ∧ wc.cell? ⟨w.heap.size + 1 + 1, 1, none⟩ = some (.int .i64 (timesB t b n)) ∧ wc.frozen? ⟨w.heap.size + 1 + 1, 0, none⟩ = false ∧ wc.frozen? ⟨w.heap.size + 1 + 1, 1, none⟩ = false ∧ wc.cell? ⟨w4.heap.size, 0, none⟩ = some (.int .i64 (ofT p q)) ∧ wc.cell? ⟨w4.heap.size, 1, none⟩ = some (.int .i64 (ofB p q)) ∧ wc.frozen? ⟨w4.heap.size, 0, none⟩ = false ∧ wc.frozen? ⟨w4.heap.size, 1, none⟩ = false)
              case first =>
                as_aux_lemma =>
                  by_cases h0 : fault t b = 0
                  · have qf : (fault t b == 0) = true := beq_iff_eq.2 h0
                    by_cases hn : -1000 ≤ n ∧ n ≤ 1000
                    · obtain ⟨r1, r2⟩ := hn
                      have hn : -1000 ≤ n ∧ n ≤ 1000 := ⟨r1, r2⟩
                      obtain rfl : ob75 = false := by rw [← hob75.out, outB, qf]; simp; omega
                      obtain ⟨m1, m2, m3, m4⟩ := fault_0 h0
                      obtain ⟨q1, q2⟩ := mul_bd' (t := t) (c := n) (A := 1000000000) (C := 1000) (by omega) (by omega) (by omega) (by omega)
                      have HF : Hid (fault t b = 0) := h0
                      cases hm : mayB (lowT (t * n) (b)) (lowB (t * n) (b)) with
                      | true =>
                        have HG : Hid (bigB (lowT (t * n) (b)) (lowB (t * n) (b)) = false) := by show bigB _ _ = false; rw [bigB_low (by omega), hm]; rfl
                        have HT : Hid (timesT t b n = lowT (t * n) (b)) := by show timesT t b n = _; rw [timesT, if_pos h0, if_pos hn, madeT, if_pos hm]
                        have HB : Hid (timesB t b n = lowB (t * n) (b)) := by show timesB t b n = _; rw [timesB, if_pos h0, if_pos hn, madeB, if_pos hm]
                        have HE : Hid (timesE t b n = 0) := by show timesE t b n = _; rw [timesE, if_pos h0, if_pos hn, madeE, if_pos hm]
                        clear h0 hn hm
                        go_wp2_with fail
                        refine (Low_any (t * n) (b) _ (by omega) (by omega) (by omega) (by omega)).mono ?_
                        rintro e w10 ⟨rfl, hb10⟩
                        have B_10 : Below w.heap.size w w10 := by
                          refine Below.trans ?_ (hb10.mono (by first | exact B_9.size | (have := B_9.size; simp; omega)))
                          repeat (first | exact B_9 | refine Below.setCell ?_ (by first | (simp; done) | (simp; omega) | omega) _ | refine Below.alloc ?_ (by first | omega | (simp; done) | (simp; omega)) _ | refine Below.drew ?_)
                        have G_10 : w10.cell? ⟨0, 0, none⟩ = some handleV := cell_later hb10 (by go_simp)
                        have a0_10 : w10.cell? ⟨w.heap.size, 0, none⟩ = some (.int .i64 (t)) := cell_later hb10 (by go_simp)
                        have a1_10 : w10.cell? ⟨w.heap.size, 1, none⟩ = some (.int .i64 (b)) := cell_later hb10 (by go_simp)
                        have af_10 : w10.frozen? ⟨w.heap.size, 0, none⟩ = false := (hb10.frozen (p := ⟨w.heap.size, 0, none⟩) (by first | (simp; done) | (simp; omega) | omega)).trans (by go_simp)
                        have ag_10 : w10.frozen? ⟨w.heap.size, 1, none⟩ = false := (hb10.frozen (p := ⟨w.heap.size, 1, none⟩) (by first | (simp; done) | (simp; omega) | omega)).trans (by go_simp)
                        have az_10 : w.heap.size < w10.heap.size := World.block_lt_of_cell? _ _ a0_10
                        have b0_10 : w10.cell? ⟨w.heap.size + 1, 0, none⟩ = some (.int .i64 (u)) := cell_later hb10 (by go_simp)
                        have b1_10 : w10.cell? ⟨w.heap.size + 1, 1, none⟩ = some (.int .i64 (c)) := cell_later hb10 (by go_simp)
                        have bf_10 : w10.frozen? ⟨w.heap.size + 1, 0, none⟩ = false := (hb10.frozen (p := ⟨w.heap.size + 1, 0, none⟩) (by first | (simp; done) | (simp; omega) | omega)).trans (by go_simp)
                        have bg_10 : w10.frozen? ⟨w.heap.size + 1, 1, none⟩ = false := (hb10.frozen (p := ⟨w.heap.size + 1, 1, none⟩) (by first | (simp; done) | (simp; omega) | omega)).trans (by go_simp)
                        have bz_10 : w.heap.size + 1 < w10.heap.size := World.block_lt_of_cell? _ _ b0_10
                        have s0_10 : w10.cell? ⟨w.heap.size + 1 + 1, 0, none⟩ = some (.int .i64 (0)) := cell_later hb10 (by go_simp)
                        have s1_10 : w10.cell? ⟨w.heap.size + 1 + 1, 1, none⟩ = some (.int .i64 (0)) := cell_later hb10 (by go_simp)
                        have sf_10 : w10.frozen? ⟨w.heap.size + 1 + 1, 0, none⟩ = false := (hb10.frozen (p := ⟨w.heap.size + 1 + 1, 0, none⟩) (by first | (simp; done) | (simp; omega) | omega)).trans (by go_simp)
                        have sg_10 : w10.frozen? ⟨w.heap.size + 1 + 1, 1, none⟩ = false := (hb10.frozen (p := ⟨w.heap.size + 1 + 1, 1, none⟩) (by first | (simp; done) | (simp; omega) | omega)).trans (by go_simp)
                        have sz_10 : w.heap.size + 1 + 1 < w10.heap.size := World.block_lt_of_cell? _ _ s0_10
                        have x0_10 : w10.cell? ⟨w4.heap.size, 0, none⟩ = some (.int .i64 (ofT p q)) := cell_later hb10 (by go_simp)
                        have x1_10 : w10.cell? ⟨w4.heap.size, 1, none⟩ = some (.int .i64 (ofB p q)) := cell_later hb10 (by go_simp)
                        have xf_10 : w10.frozen? ⟨w4.heap.size, 0, none⟩ = false := (hb10.frozen (p := ⟨w4.heap.size, 0, none⟩) (by first | (simp; done) | (simp; omega) | omega)).trans (by go_simp)
                        have xg_10 : w10.frozen? ⟨w4.heap.size, 1, none⟩ = false := (hb10.frozen (p := ⟨w4.heap.size, 1, none⟩) (by first | (simp; done) | (simp; omega) | omega)).trans (by go_simp)
                        have xz_10 : w4.heap.size < w10.heap.size := World.block_lt_of_cell? _ _ x0_10
                        have gz_10 : 0 < w10.heap.size := World.block_lt_of_cell? _ _ G_10
                        clear hb10
                        go_wp2_with fail
                        refine (Big_any (lowT (t * n) (b)) (lowB (t * n) (b)) _).mono ?_
                        rintro e w11 ⟨rfl, hb11⟩
                        rw [HG.out]
                        have B_11 : Below w.heap.size w w11 := by
                          refine Below.trans ?_ (hb11.mono (by first | exact B_10.size | (have := B_10.size; simp; omega)))
                          repeat (first | exact B_10 | refine Below.setCell ?_ (by first | (simp; done) | (simp; omega) | omega) _ | refine Below.alloc ?_ (by first | omega | (simp; done) | (simp; omega)) _ | refine Below.drew ?_)
                        have G_11 : w11.cell? ⟨0, 0, none⟩ = some handleV := cell_later hb11 (by go_simp)
                        have a0_11 : w11.cell? ⟨w.heap.size, 0, none⟩ = some (.int .i64 (t)) := cell_later hb11 (by go_simp)
                        have a1_11 : w11.cell? ⟨w.heap.size, 1, none⟩ = some (.int .i64 (b)) := cell_later hb11 (by go_simp)
                        have af_11 : w11.frozen? ⟨w.heap.size, 0, none⟩ = false := (hb11.frozen (p := ⟨w.heap.size, 0, none⟩) (by first | (simp; done) | (simp; omega) | omega)).trans (by go_simp)
                        have ag_11 : w11.frozen? ⟨w.heap.size, 1, none⟩ = false := (hb11.frozen (p := ⟨w.heap.size, 1, none⟩) (by first | (simp; done) | (simp; omega) | omega)).trans (by go_simp)
                        have az_11 : w.heap.size < w11.heap.size := World.block_lt_of_cell? _ _ a0_11
                        have b0_11 : w11.cell? ⟨w.heap.size + 1, 0, none⟩ = some (.int .i64 (u)) := cell_later hb11 (by go_simp)
                        have b1_11 : w11.cell? ⟨w.heap.size + 1, 1, none⟩ = some (.int .i64 (c)) := cell_later hb11 (by go_simp)
                        have bf_11 : w11.frozen? ⟨w.heap.size + 1, 0, none⟩ = false := (hb11.frozen (p := ⟨w.heap.size + 1, 0, none⟩) (by first | (simp; done) | (simp; omega) | omega)).trans (by go_simp)
                        have bg_11 : w11.frozen? ⟨w.heap.size + 1, 1, none⟩ = false := (hb11.frozen (p := ⟨w.heap.size + 1, 1, none⟩) (by first | (simp; done) | (simp; omega) | omega)).trans (by go_simp)
                        have bz_11 : w.heap.size + 1 < w11.heap.size := World.block_lt_of_cell? _ _ b0_11
                        have s0_11 : w11.cell? ⟨w.heap.size + 1 + 1, 0, none⟩ = some (.int .i64 (lowT (t * n) (b))) := cell_later hb11 (by go_simp)
                        have s1_11 : w11.cell? ⟨w.heap.size + 1 + 1, 1, none⟩ = some (.int .i64 (lowB (t * n) (b))) := cell_later hb11 (by go_simp)
                        have sf_11 : w11.frozen? ⟨w.heap.size + 1 + 1, 0, none⟩ = false := (hb11.frozen (p := ⟨w.heap.size + 1 + 1, 0, none⟩) (by first | (simp; done) | (simp; omega) | omega)).trans (by go_simp)
                        have sg_11 : w11.frozen? ⟨w.heap.size + 1 + 1, 1, none⟩ = false := (hb11.frozen (p := ⟨w.heap.size + 1 + 1, 1, none⟩) (by first | (simp; done) | (simp; omega) | omega)).trans (by go_simp)
                        have sz_11 : w.heap.size + 1 + 1 < w11.heap.size := World.block_lt_of_cell? _ _ s0_11
                        have x0_11 : w11.cell? ⟨w4.heap.size, 0, none⟩ = some (.int .i64 (ofT p q)) := cell_later hb11 (by go_simp)
                        have x1_11 : w11.cell? ⟨w4.heap.size, 1, none⟩ = some (.int .i64 (ofB p q)) := cell_later hb11 (by go_simp)
                        have xf_11 : w11.frozen? ⟨w4.heap.size, 0, none⟩ = false := (hb11.frozen (p := ⟨w4.heap.size, 0, none⟩) (by first | (simp; done) | (simp; omega) | omega)).trans (by go_simp)
                        have xg_11 : w11.frozen? ⟨w4.heap.size, 1, none⟩ = false := (hb11.frozen (p := ⟨w4.heap.size, 1, none⟩) (by first | (simp; done) | (simp; omega) | omega)).trans (by go_simp)
                        have xz_11 : w4.heap.size < w11.heap.size := World.block_lt_of_cell? _ _ x0_11
                        have gz_11 : 0 < w11.heap.size := World.block_lt_of_cell? _ _ G_11
                        clear hb11 B_10 G_10 gz_10 a0_10 a1_10 az_10 af_10 ag_10 b0_10 b1_10 bz_10 bf_10 bg_10 s0_10 s1_10 sz_10 sf_10 sg_10 x0_10 x1_10 xz_10 xf_10 xg_10
                        go_wp2
                        go_meet
                        case rel =>
                          refine ⟨?_, ?_, ?_, ?_, ?_, ?_, ?_, ?_, ?_, ?_, ?_, ?_, ?_, ?_, ?_, ?_, ?_, ?_, ?_⟩
                          · rw [HE.out, HF.out]
                          · repeat (first | exact B_11 | refine Below.setCell ?_ (by first | (simp; done) | (simp; omega) | omega) _ | refine Below.alloc ?_ (by first | omega | (simp; done) | (simp; omega)) _ | refine Below.drew ?_)
                          · go_simp
                          · go_simp
                          · go_simp
                          · go_simp
                          · go_simp
                          · go_simp
                          · go_simp
                          · go_simp
                          · go_simp
                          · rw [HT.out]; go_simp
                          · rw [HB.out]; go_simp
                          · go_simp
                          · go_simp
                          · go_simp
                          · go_simp
                          · go_simp
                          · go_simp
                      | false =>
                        have hm' : ¬ mayB (lowT (t * n) (b)) (lowB (t * n) (b)) = true := by rw [hm]; decide
                        have HG : Hid (bigB (lowT (t * n) (b)) (lowB (t * n) (b)) = true) := by show bigB _ _ = true; rw [bigB_low (by omega), hm]; rfl
                        have HT : Hid (timesT t b n = 0) := by show timesT t b n = _; rw [timesT, if_pos h0, if_pos hn, madeT, if_neg hm']
                        have HB : Hid (timesB t b n = 0) := by show timesB t b n = _; rw [timesB, if_pos h0, if_pos hn, madeB, if_neg hm']
                        have HE : Hid (timesE t b n = 4) := by show timesE t b n = _; rw [timesE, if_pos h0, if_pos hn, madeE, if_neg hm']
                        clear h0 hn hm hm'
                        go_wp2_with fail
                        refine (Low_any (t * n) (b) _ (by omega) (by omega) (by omega) (by omega)).mono ?_
                        rintro e w12 ⟨rfl, hb12⟩
                        have B_12 : Below w.heap.size w w12 := by
                          refine Below.trans ?_ (hb12.mono (by first | exact B_9.size | (have := B_9.size; simp; omega)))
                          repeat (first | exact B_9 | refine Below.setCell ?_ (by first | (simp; done) | (simp; omega) | omega) _ | refine Below.alloc ?_ (by first | omega | (simp; done) | (simp; omega)) _ | refine Below.drew ?_)
                        have G_12 : w12.cell? ⟨0, 0, none⟩ = some handleV := cell_later hb12 (by go_simp)
                        have a0_12 : w12.cell? ⟨w.heap.size, 0, none⟩ = some (.int .i64 (t)) := cell_later hb12 (by go_simp)
                        have a1_12 : w12.cell? ⟨w.heap.size, 1, none⟩ = some (.int .i64 (b)) := cell_later hb12 (by go_simp)
                        have af_12 : w12.frozen? ⟨w.heap.size, 0, none⟩ = false := (hb12.frozen (p := ⟨w.heap.size, 0, none⟩) (by first | (simp; done) | (simp; omega) | omega)).trans (by go_simp)
                        have ag_12 : w12.frozen? ⟨w.heap.size, 1, none⟩ = false := (hb12.frozen (p := ⟨w.heap.size, 1, none⟩) (by first | (simp; done) | (simp; omega) | omega)).trans (by go_simp)
                        have az_12 : w.heap.size < w12.heap.size := World.block_lt_of_cell? _ _ a0_12
                        have b0_12 : w12.cell? ⟨w.heap.size + 1, 0, none⟩ = some (.int .i64 (u)) := cell_later hb12 (by go_simp)
                        have b1_12 : w12.cell? ⟨w.heap.size + 1, 1, none⟩ = some (.int .i64 (c)) := cell_later hb12 (by go_simp)
                        have bf_12 : w12.frozen? ⟨w.heap.size + 1, 0, none⟩ = false := (hb12.frozen (p := ⟨w.heap.size + 1, 0, none⟩) (by first | (simp; done) | (simp; omega) | omega)).trans (by go_simp)
                        have bg_12 : w12.frozen? ⟨w.heap.size + 1, 1, none⟩ = false := (hb12.frozen (p := ⟨w.heap.size + 1, 1, none⟩) (by first | (simp; done) | (simp; omega) | omega)).trans (by go_simp)
                        have bz_12 : w.heap.size + 1 < w12.heap.size := World.block_lt_of_cell? _ _ b0_12
                        have s0_12 : w12.cell? ⟨w.heap.size + 1 + 1, 0, none⟩ = some (.int .i64 (0)) := cell_later hb12 (by go_simp)
                        have s1_12 : w12.cell? ⟨w.heap.size + 1 + 1, 1, none⟩ = some (.int .i64 (0)) := cell_later hb12 (by go_simp)
                        have sf_12 : w12.frozen? ⟨w.heap.size + 1 + 1, 0, none⟩ = false := (hb12.frozen (p := ⟨w.heap.size + 1 + 1, 0, none⟩) (by first | (simp; done) | (simp; omega) | omega)).trans (by go_simp)
                        have sg_12 : w12.frozen? ⟨w.heap.size + 1 + 1, 1, none⟩ = false := (hb12.frozen (p := ⟨w.heap.size + 1 + 1, 1, none⟩) (by first | (simp; done) | (simp; omega) | omega)).trans (by go_simp)
                        have sz_12 : w.heap.size + 1 + 1 < w12.heap.size := World.block_lt_of_cell? _ _ s0_12
                        have x0_12 : w12.cell? ⟨w4.heap.size, 0, none⟩ = some (.int .i64 (ofT p q)) := cell_later hb12 (by go_simp)
                        have x1_12 : w12.cell? ⟨w4.heap.size, 1, none⟩ = some (.int .i64 (ofB p q)) := cell_later hb12 (by go_simp)
                        have xf_12 : w12.frozen? ⟨w4.heap.size, 0, none⟩ = false := (hb12.frozen (p := ⟨w4.heap.size, 0, none⟩) (by first | (simp; done) | (simp; omega) | omega)).trans (by go_simp)
                        have xg_12 : w12.frozen? ⟨w4.heap.size, 1, none⟩ = false := (hb12.frozen (p := ⟨w4.heap.size, 1, none⟩) (by first | (simp; done) | (simp; omega) | omega)).trans (by go_simp)
                        have xz_12 : w4.heap.size < w12.heap.size := World.block_lt_of_cell? _ _ x0_12
                        have gz_12 : 0 < w12.heap.size := World.block_lt_of_cell? _ _ G_12
                        clear hb12
                        go_wp2_with fail
                        refine (Big_any (lowT (t * n) (b)) (lowB (t * n) (b)) _).mono ?_
                        rintro e w13 ⟨rfl, hb13⟩
                        rw [HG.out]
                        have B_13 : Below w.heap.size w w13 := by
                          refine Below.trans ?_ (hb13.mono (by first | exact B_12.size | (have := B_12.size; simp; omega)))
                          repeat (first | exact B_12 | refine Below.setCell ?_ (by first | (simp; done) | (simp; omega) | omega) _ | refine Below.alloc ?_ (by first | omega | (simp; done) | (simp; omega)) _ | refine Below.drew ?_)
                        have G_13 : w13.cell? ⟨0, 0, none⟩ = some handleV := cell_later hb13 (by go_simp)
                        have a0_13 : w13.cell? ⟨w.heap.size, 0, none⟩ = some (.int .i64 (t)) := cell_later hb13 (by go_simp)
                        have a1_13 : w13.cell? ⟨w.heap.size, 1, none⟩ = some (.int .i64 (b)) := cell_later hb13 (by go_simp)
                        have af_13 : w13.frozen? ⟨w.heap.size, 0, none⟩ = false := (hb13.frozen (p := ⟨w.heap.size, 0, none⟩) (by first | (simp; done) | (simp; omega) | omega)).trans (by go_simp)
                        have ag_13 : w13.frozen? ⟨w.heap.size, 1, none⟩ = false := (hb13.frozen (p := ⟨w.heap.size, 1, none⟩) (by first | (simp; done) | (simp; omega) | omega)).trans (by go_simp)
                        have az_13 : w.heap.size < w13.heap.size := World.block_lt_of_cell? _ _ a0_13
                        have b0_13 : w13.cell? ⟨w.heap.size + 1, 0, none⟩ = some (.int .i64 (u)) := cell_later hb13 (by go_simp)
                        have b1_13 : w13.cell? ⟨w.heap.size + 1, 1, none⟩ = some (.int .i64 (c)) := cell_later hb13 (by go_simp)
                        have bf_13 : w13.frozen? ⟨w.heap.size + 1, 0, none⟩ = false := (hb13.frozen (p := ⟨w.heap.size + 1, 0, none⟩) (by first | (simp; done) | (simp; omega) | omega)).trans (by go_simp)
                        have bg_13 : w13.frozen? ⟨w.heap.size + 1, 1, none⟩ = false := (hb13.frozen (p := ⟨w.heap.size + 1, 1, none⟩) (by first | (simp; done) | (simp; omega) | omega)).trans (by go_simp)
                        have bz_13 : w.heap.size + 1 < w13.heap.size := World.block_lt_of_cell? _ _ b0_13
                        have s0_13 : w13.cell? ⟨w.heap.size + 1 + 1, 0, none⟩ = some (.int .i64 (lowT (t * n) (b))) := cell_later hb13 (by go_simp)
                        have s1_13 : w13.cell? ⟨w.heap.size + 1 + 1, 1, none⟩ = some (.int .i64 (lowB (t * n) (b))) := cell_later hb13 (by go_simp)
                        have sf_13 : w13.frozen? ⟨w.heap.size + 1 + 1, 0, none⟩ = false := (hb13.frozen (p := ⟨w.heap.size + 1 + 1, 0, none⟩) (by first | (simp; done) | (simp; omega) | omega)).trans (by go_simp)
                        have sg_13 : w13.frozen? ⟨w.heap.size + 1 + 1, 1, none⟩ = false := (hb13.frozen (p := ⟨w.heap.size + 1 + 1, 1, none⟩) (by first | (simp; done) | (simp; omega) | omega)).trans (by go_simp)
                        have sz_13 : w.heap.size + 1 + 1 < w13.heap.size := World.block_lt_of_cell? _ _ s0_13
                        have x0_13 : w13.cell? ⟨w4.heap.size, 0, none⟩ = some (.int .i64 (ofT p q)) := cell_later hb13 (by go_simp)
                        have x1_13 : w13.cell? ⟨w4.heap.size, 1, none⟩ = some (.int .i64 (ofB p q)) := cell_later hb13 (by go_simp)
                        have xf_13 : w13.frozen? ⟨w4.heap.size, 0, none⟩ = false := (hb13.frozen (p := ⟨w4.heap.size, 0, none⟩) (by first | (simp; done) | (simp; omega) | omega)).trans (by go_simp)
                        have xg_13 : w13.frozen? ⟨w4.heap.size, 1, none⟩ = false := (hb13.frozen (p := ⟨w4.heap.size, 1, none⟩) (by first | (simp; done) | (simp; omega) | omega)).trans (by go_simp)
                        have xz_13 : w4.heap.size < w13.heap.size := World.block_lt_of_cell? _ _ x0_13
                        have gz_13 : 0 < w13.heap.size := World.block_lt_of_cell? _ _ G_13
                        clear hb13 B_12 G_12 gz_12 a0_12 a1_12 az_12 af_12 ag_12 b0_12 b1_12 bz_12 bf_12 bg_12 s0_12 s1_12 sz_12 sf_12 sg_12 x0_12 x1_12 xz_12 xf_12 xg_12
                        go_wp2
                        go_meet
                        case rel =>
                          refine ⟨?_, ?_, ?_, ?_, ?_, ?_, ?_, ?_, ?_, ?_, ?_, ?_, ?_, ?_, ?_, ?_, ?_, ?_, ?_⟩
                          · rw [HE.out]
                          · repeat (first | exact B_13 | refine Below.setCell ?_ (by first | (simp; done) | (simp; omega) | omega) _ | refine Below.alloc ?_ (by first | omega | (simp; done) | (simp; omega)) _ | refine Below.drew ?_)
                          · go_simp
                          · go_simp
                          · go_simp
                          · go_simp
                          · go_simp
                          · go_simp
                          · go_simp
                          · go_simp
                          · go_simp
                          · rw [HT.out]; go_simp
                          · rw [HB.out]; go_simp
                          · go_simp
                          · go_simp
                          · go_simp
                          · go_simp
                          · go_simp
                          · go_simp
                    · obtain rfl : ob75 = true := by rw [← hob75.out, outB, qf]; simp; omega
                      have HT : Hid (timesT t b n = 0) := by show timesT t b n = _; rw [timesT, if_pos h0, if_neg hn]
                      have HB : Hid (timesB t b n = 0) := by show timesB t b n = _; rw [timesB, if_pos h0, if_neg hn]
                      have HE : Hid (timesE t b n = 1) := by show timesE t b n = _; rw [timesE, if_pos h0, if_neg hn]
                      clear h0 hn
                      go_wp2
                      go_meet
                      case rel =>
                        refine ⟨?_, ?_, ?_, ?_, ?_, ?_, ?_, ?_, ?_, ?_, ?_, ?_, ?_, ?_, ?_, ?_, ?_, ?_, ?_⟩
                        · rw [HE.out]
                        · repeat (first | exact B_9 | refine Below.setCell ?_ (by first | (simp; done) | (simp; omega) | omega) _ | refine Below.alloc ?_ (by first | omega | (simp; done) | (simp; omega)) _ | refine Below.drew ?_)
                        · go_simp
                        · go_simp
                        · go_simp
                        · go_simp
                        · go_simp
                        · go_simp
                        · go_simp
                        · go_simp
                        · go_simp
                        · rw [HT.out]; go_simp
                        · rw [HB.out]; go_simp
                        · go_simp
                        · go_simp
                        · go_simp
                        · go_simp
                        · go_simp
                        · go_simp
                  · have qf : (fault t b == 0) = false := beq_eq_false_iff_ne.2 h0
                    obtain rfl : ob75 = false := by rw [← hob75.out, outB, qf]; rfl
                    have HT : Hid (timesT t b n = 0) := by show timesT t b n = _; rw [timesT, if_neg h0]
                    have HB : Hid (timesB t b n = 0) := by show timesB t b n = _; rw [timesB, if_neg h0]
                    have HE : Hid (timesE t b n = fault t b) := by show timesE t b n = _; rw [timesE, if_neg h0]
                    clear h0
                    go_wp2
                    go_meet
                    case rel =>
                      refine ⟨?_, ?_, ?_, ?_, ?_, ?_, ?_, ?_, ?_, ?_, ?_, ?_, ?_, ?_, ?_, ?_, ?_, ?_, ?_⟩
                      · rw [HE.out]
                      · repeat (first | exact B_9 | refine Below.setCell ?_ (by first | (simp; done) | (simp; omega) | omega) _ | refine Below.alloc ?_ (by first | omega | (simp; done) | (simp; omega)) _ | refine Below.drew ?_)
                      · go_simp
                      · go_simp
                      · go_simp
                      · go_simp
                      · go_simp
                      · go_simp
                      · go_simp
                      · go_simp
                      · go_simp
                      · rw [HT.out]; go_simp
                      · rw [HB.out]; go_simp
                      · go_simp
                      · go_simp
                      · go_simp
                      · go_simp
                      · go_simp
                      · go_simp
              case rest =>
                as_aux_lemma =>
                  obtain ⟨w14, rfl⟩ : ∃ x : World, x = wc := ⟨_, rfl⟩
                  obtain ⟨rfl, B_14, G_14, a0_14, a1_14, af_14, ag_14, b0_14, b1_14, bf_14, bg_14, s0_14, s1_14, sf_14, sg_14, x0_14, x1_14, xf_14, xg_14⟩ := hcut
                  have az_14 : w.heap.size < w14.heap.size := World.block_lt_of_cell? _ _ a0_14
                  have bz_14 : w.heap.size + 1 < w14.heap.size := World.block_lt_of_cell? _ _ b0_14
                  have sz_14 : w.heap.size + 1 + 1 < w14.heap.size := World.block_lt_of_cell? _ _ s0_14
                  have xz_14 : w4.heap.size < w14.heap.size := World.block_lt_of_cell? _ _ x0_14
                  have gz_14 : 0 < w14.heap.size := World.block_lt_of_cell? _ _ G_14
                  clear B_9 G_9 gz_9 a0_9 a1_9 az_9 af_9 ag_9 b0_9 b1_9 bz_9 bf_9 bg_9 s0_9 s1_9 sz_9 sf_9 sg_9 x0_9 x1_9 xz_9 xf_9 xg_9
                  go_wp2_with fail
                  refine (Times_any t b n _).mono ?_
                  rintro e w15 ⟨rfl, hb15⟩
                  rw [pairV]
                  have B_15 : Below w.heap.size w w15 := by
                    refine Below.trans ?_ (hb15.mono (by first | exact B_14.size | (have := B_14.size; simp; omega)))
                    repeat (first | exact B_14 | refine Below.setCell ?_ (by first | (simp; done) | (simp; omega) | omega) _ | refine Below.alloc ?_ (by first | omega | (simp; done) | (simp; omega)) _ | refine Below.drew ?_)
                  have G_15 : w15.cell? ⟨0, 0, none⟩ = some handleV := cell_later hb15 (by go_simp)
                  have a0_15 : w15.cell? ⟨w.heap.size, 0, none⟩ = some (.int .i64 (t)) := cell_later hb15 (by go_simp)
                  have a1_15 : w15.cell? ⟨w.heap.size, 1, none⟩ = some (.int .i64 (b)) := cell_later hb15 (by go_simp)
                  have af_15 : w15.frozen? ⟨w.heap.size, 0, none⟩ = false := (hb15.frozen (p := ⟨w.heap.size, 0, none⟩) (by first | (simp; done) | (simp; omega) | omega)).trans (by go_simp)
                  have ag_15 : w15.frozen? ⟨w.heap.size, 1, none⟩ = false := (hb15.frozen (p := ⟨w.heap.size, 1, none⟩) (by first | (simp; done) | (simp; omega) | omega)).trans (by go_simp)
                  have az_15 : w.heap.size < w15.heap.size := World.block_lt_of_cell? _ _ a0_15
                  have b0_15 : w15.cell? ⟨w.heap.size + 1, 0, none⟩ = some (.int .i64 (u)) := cell_later hb15 (by go_simp)
                  have b1_15 : w15.cell? ⟨w.heap.size + 1, 1, none⟩ = some (.int .i64 (c)) := cell_later hb15 (by go_simp)
                  have bf_15 : w15.frozen? ⟨w.heap.size + 1, 0, none⟩ = false := (hb15.frozen (p := ⟨w.heap.size + 1, 0, none⟩) (by first | (simp; done) | (simp; omega) | omega)).trans (by go_simp)
                  have bg_15 : w15.frozen? ⟨w.heap.size + 1, 1, none⟩ = false := (hb15.frozen (p := ⟨w.heap.size + 1, 1, none⟩) (by first | (simp; done) | (simp; omega) | omega)).trans (by go_simp)
                  have bz_15 : w.heap.size + 1 < w15.heap.size := World.block_lt_of_cell? _ _ b0_15
                  have s0_15 : w15.cell? ⟨w.heap.size + 1 + 1, 0, none⟩ = some (.int .i64 (timesT t b n)) := cell_later hb15 (by go_simp)
                  have s1_15 : w15.cell? ⟨w.heap.size + 1 + 1, 1, none⟩ = some (.int .i64 (timesB t b n)) := cell_later hb15 (by go_simp)
                  have sf_15 : w15.frozen? ⟨w.heap.size + 1 + 1, 0, none⟩ = false := (hb15.frozen (p := ⟨w.heap.size + 1 + 1, 0, none⟩) (by first | (simp; done) | (simp; omega) | omega)).trans (by go_simp)
                  have sg_15 : w15.frozen? ⟨w.heap.size + 1 + 1, 1, none⟩ = false := (hb15.frozen (p := ⟨w.heap.size + 1 + 1, 1, none⟩) (by first | (simp; done) | (simp; omega) | omega)).trans (by go_simp)
                  have sz_15 : w.heap.size + 1 + 1 < w15.heap.size := World.block_lt_of_cell? _ _ s0_15
                  have x0_15 : w15.cell? ⟨w4.heap.size, 0, none⟩ = some (.int .i64 (ofT p q)) := cell_later hb15 (by go_simp)
                  have x1_15 : w15.cell? ⟨w4.heap.size, 1, none⟩ = some (.int .i64 (ofB p q)) := cell_later hb15 (by go_simp)
                  have xf_15 : w15.frozen? ⟨w4.heap.size, 0, none⟩ = false := (hb15.frozen (p := ⟨w4.heap.size, 0, none⟩) (by first | (simp; done) | (simp; omega) | omega)).trans (by go_simp)
                  have xg_15 : w15.frozen? ⟨w4.heap.size, 1, none⟩ = false := (hb15.frozen (p := ⟨w4.heap.size, 1, none⟩) (by first | (simp; done) | (simp; omega) | omega)).trans (by go_simp)
                  have xz_15 : w4.heap.size < w15.heap.size := World.block_lt_of_cell? _ _ x0_15
                  have gz_15 : 0 < w15.heap.size := World.block_lt_of_cell? _ _ G_15
                  clear hb15 B_14 G_14 gz_14 a0_14 a1_14 az_14 af_14 ag_14 b0_14 b1_14 bz_14 bf_14 bg_14 s0_14 s1_14 sz_14 sf_14 sg_14 x0_14 x1_14 xz_14 xf_14 xg_14
                  go_wp2_with fail
                  refine (Error_any (timesE t b n) (timesE t b n) _ (by go_simp)).mono ?_
                  rintro e w16 ⟨rfl, hb16⟩
                  rw [E1.out]
                  have B_16 : Below w.heap.size w w16 := by
                    refine Below.trans ?_ (hb16.mono (by first | exact B_15.size | (have := B_15.size; simp; omega)))
                    repeat (first | exact B_15 | refine Below.setCell ?_ (by first | (simp; done) | (simp; omega) | omega) _ | refine Below.alloc ?_ (by first | omega | (simp; done) | (simp; omega)) _ | refine Below.drew ?_)
                  have G_16 : w16.cell? ⟨0, 0, none⟩ = some handleV := cell_later hb16 (by go_simp)
                  have a0_16 : w16.cell? ⟨w.heap.size, 0, none⟩ = some (.int .i64 (t)) := cell_later hb16 (by go_simp)
                  have a1_16 : w16.cell? ⟨w.heap.size, 1, none⟩ = some (.int .i64 (b)) := cell_later hb16 (by go_simp)
                  have af_16 : w16.frozen? ⟨w.heap.size, 0, none⟩ = false := (hb16.frozen (p := ⟨w.heap.size, 0, none⟩) (by first | (simp; done) | (simp; omega) | omega)).trans (by go_simp)
                  have ag_16 : w16.frozen? ⟨w.heap.size, 1, none⟩ = false := (hb16.frozen (p := ⟨w.heap.size, 1, none⟩) (by first | (simp; done) | (simp; omega) | omega)).trans (by go_simp)
                  have az_16 : w.heap.size < w16.heap.size := World.block_lt_of_cell? _ _ a0_16
                  have b0_16 : w16.cell? ⟨w.heap.size + 1, 0, none⟩ = some (.int .i64 (u)) := cell_later hb16 (by go_simp)
                  have b1_16 : w16.cell? ⟨w.heap.size + 1, 1, none⟩ = some (.int .i64 (c)) := cell_later hb16 (by go_simp)
                  have bf_16 : w16.frozen? ⟨w.heap.size + 1, 0, none⟩ = false := (hb16.frozen (p := ⟨w.heap.size + 1, 0, none⟩) (by first | (simp; done) | (simp; omega) | omega)).trans (by go_simp)
                  have bg_16 : w16.frozen? ⟨w.heap.size + 1, 1, none⟩ = false := (hb16.frozen (p := ⟨w.heap.size + 1, 1, none⟩) (by first | (simp; done) | (simp; omega) | omega)).trans (by go_simp)
                  have bz_16 : w.heap.size + 1 < w16.heap.size := World.block_lt_of_cell? _ _ b0_16
                  have s0_16 : w16.cell? ⟨w.heap.size + 1 + 1, 0, none⟩ = some (.int .i64 (timesT t b n)) := cell_later hb16 (by go_simp)
                  have s1_16 : w16.cell? ⟨w.heap.size + 1 + 1, 1, none⟩ = some (.int .i64 (timesB t b n)) := cell_later hb16 (by go_simp)
                  have sf_16 : w16.frozen? ⟨w.heap.size + 1 + 1, 0, none⟩ = false := (hb16.frozen (p := ⟨w.heap.size + 1 + 1, 0, none⟩) (by first | (simp; done) | (simp; omega) | omega)).trans (by go_simp)
                  have sg_16 : w16.frozen? ⟨w.heap.size + 1 + 1, 1, none⟩ = false := (hb16.frozen (p := ⟨w.heap.size + 1 + 1, 1, none⟩) (by first | (simp; done) | (simp; omega) | omega)).trans (by go_simp)
                  have sz_16 : w.heap.size + 1 + 1 < w16.heap.size := World.block_lt_of_cell? _ _ s0_16
                  have x0_16 : w16.cell? ⟨w4.heap.size, 0, none⟩ = some (.int .i64 (timesT t b n)) := cell_later hb16 (by go_simp)
                  have x1_16 : w16.cell? ⟨w4.heap.size, 1, none⟩ = some (.int .i64 (timesB t b n)) := cell_later hb16 (by go_simp)
                  have xf_16 : w16.frozen? ⟨w4.heap.size, 0, none⟩ = false := (hb16.frozen (p := ⟨w4.heap.size, 0, none⟩) (by first | (simp; done) | (simp; omega) | omega)).trans (by go_simp)
                  have xg_16 : w16.frozen? ⟨w4.heap.size, 1, none⟩ = false := (hb16.frozen (p := ⟨w4.heap.size, 1, none⟩) (by first | (simp; done) | (simp; omega) | omega)).trans (by go_simp)
                  have xz_16 : w4.heap.size < w16.heap.size := World.block_lt_of_cell? _ _ x0_16
                  have gz_16 : 0 < w16.heap.size := World.block_lt_of_cell? _ _ G_16
                  clear hb16 B_15 G_15 gz_15 a0_15 a1_15 az_15 af_15 ag_15 b0_15 b1_15 bz_15 bf_15 bg_15 s0_15 s1_15 sz_15 sf_15 sg_15 x0_15 x1_15 xz_15 xf_15 xg_15
                  obtain ⟨ob114, hob114⟩ : ∃ o, Hid (outB (fault t b) n (1) 1000 = o) := ⟨_, rfl⟩
                  go_upto_region 24 with fail
                  go_cut [114] (fun s114 wc => s114 = .bool ob114 ∧ Below w.heap.size w wc ∧ wc.cell? ⟨0, 0, none⟩ = some handleV ∧ wc.cell? ⟨w.heap.size, 0, none⟩ = some (.int .i64 (t)) ∧ wc.cell? ⟨w.heap.size, 1, none⟩ = some (.int .i64 (b)) ∧ wc.frozen? ⟨w.heap.size, 0, none⟩ = false ∧ wc.frozen? ⟨w.heap.size, 1, none⟩ = false ∧ wc.cell? ⟨w.heap.size + 1, 0, none⟩ = some (.int .i64 (u)) ∧ wc.cell? ⟨w.heap.size + 1, 1, none⟩ = some (.int .i64 (c)) ∧ wc.frozen? ⟨w.heap.size + 1, 0, none⟩ = false ∧ wc.frozen? ⟨w.heap.size + 1, 1, none⟩ = false ∧ wc.cell? ⟨w.heap.size + 1 + 1, 0, none⟩ = some (.int .i64 (0)) ∧ wc.cell? ⟨w.heap.size + 1 + 1, 1, none⟩ = some (.int .i64 (0)) ∧ wc.frozen? ⟨w.heap.size + 1 + 1, 0, none⟩ = false ∧ wc.frozen? ⟨w.heap.size + 1 + 1, 1, none⟩ = false ∧ wc.cell? ⟨w4.heap.size, 0, none⟩ = some (.int .i64 (timesT t b n)) ∧ wc.cell? ⟨w4.heap.size, 1, none⟩ = some (.int .i64 (timesB t b n)) ∧ wc.frozen? ⟨w4.heap.size, 0, none⟩ = false ∧ wc.frozen? ⟨w4.heap.size, 1, none⟩ = false)
                  case first =>
                    as_aux_lemma =>
                      by_cases h0 : fault t b = 0
                      · have qf : (fault t b == 0) = true := beq_iff_eq.2 h0
                        clear h0
                        by_cases h1 : n < 1
                        · have HM : Hid (outB (fault t b) n (1) 1000 = true) := by show outB _ _ _ _ = true; rw [outB, qf]; simp [h1]
                          go_wp2
                          go_meet
                          case rel =>
                            refine ⟨?_, ?_, ?_, ?_, ?_, ?_, ?_, ?_, ?_, ?_, ?_, ?_, ?_, ?_, ?_, ?_, ?_, ?_, ?_⟩
                            · rw [← hob114.out, HM.out]
                            · repeat (first | exact B_16 | refine Below.setCell ?_ (by first | (simp; done) | (simp; omega) | omega) _ | refine Below.alloc ?_ (by first | omega | (simp; done) | (simp; omega)) _ | refine Below.drew ?_)
                            · go_simp
                            · go_simp
                            · go_simp
                            · go_simp
                            · go_simp
                            · go_simp
                            · go_simp
                            · go_simp
                            · go_simp
                            · go_simp
                            · go_simp
                            · go_simp
                            · go_simp
                            · go_simp
                            · go_simp
                            · go_simp
                            · go_simp
                        · by_cases h2 : 1000 < n
                          · have HM : Hid (outB (fault t b) n (1) 1000 = true) := by show outB _ _ _ _ = true; rw [outB, qf]; simp [h2]
                            have h2' : decide (1000 < n) = true := by simpa using h2
                            go_wp2
                            go_meet
                            case rel =>
                              refine ⟨?_, ?_, ?_, ?_, ?_, ?_, ?_, ?_, ?_, ?_, ?_, ?_, ?_, ?_, ?_, ?_, ?_, ?_, ?_⟩
                              · rw [← hob114.out, HM.out]
                              · repeat (first | exact B_16 | refine Below.setCell ?_ (by first | (simp; done) | (simp; omega) | omega) _ | refine Below.alloc ?_ (by first | omega | (simp; done) | (simp; omega)) _ | refine Below.drew ?_)
                              · go_simp
                              · go_simp
                              · go_simp
                              · go_simp
                              · go_simp
                              · go_simp
                              · go_simp
                              · go_simp
                              · go_simp
                              · go_simp
                              · go_simp
                              · go_simp
                              · go_simp
                              · go_simp
                              · go_simp
                              · go_simp
                              · go_simp
                          · have HM : Hid (outB (fault t b) n (1) 1000 = false) := by show outB _ _ _ _ = false; rw [outB, qf]; simp; omega
                            have h2' : decide (1000 < n) = false := by simpa using h2
                            go_wp2
                            go_meet
                            case rel =>
                              refine ⟨?_, ?_, ?_, ?_, ?_, ?_, ?_, ?_, ?_, ?_, ?_, ?_, ?_, ?_, ?_, ?_, ?_, ?_, ?_⟩
                              · rw [← hob114.out, HM.out]
                              · repeat (first | exact B_16 | refine Below.setCell ?_ (by first | (simp; done) | (simp; omega) | omega) _ | refine Below.alloc ?_ (by first | omega | (simp; done) | (simp; omega)) _ | refine Below.drew ?_)
                              · go_simp
                              · go_simp
                              · go_simp
                              · go_simp
                              · go_simp
                              · go_simp
                              · go_simp
                              · go_simp
                              · go_simp
                              · go_simp
                              · go_simp
                              · go_simp
                              · go_simp
                              · go_simp
                              · go_simp
                              · go_simp
                              · go_simp
                      · have qf : (fault t b == 0) = false := beq_eq_false_iff_ne.2 h0
                        have HM : Hid (outB (fault t b) n (1) 1000 = false) := by show outB _ _ _ _ = false; rw [outB, qf]; rfl
                        clear h0
                        go_wp2
                        go_meet
                        case rel =>
                          refine ⟨?_, ?_, ?_, ?_, ?_, ?_, ?_, ?_, ?_, ?_, ?_, ?_, ?_, ?_, ?_, ?_, ?_, ?_, ?_⟩
                          · rw [← hob114.out, HM.out]
                          · repeat (first | exact B_16 | refine Below.setCell ?_ (by first | (simp; done) | (simp; omega) | omega) _ | refine Below.alloc ?_ (by first | omega | (simp; done) | (simp; omega)) _ | refine Below.drew ?_)
                          · go_simp
                          · go_simp
                          · go_simp
                          · go_simp
                          · go_simp
                          · go_simp
                          · go_simp
                          · go_simp
                          · go_simp
                          · go_simp
                          · go_simp
                          · go_simp
                          · go_simp
                          · go_simp
                          · go_simp
                          · go_simp
                          · go_simp
                  case rest =>
                    as_aux_lemma =>
                      obtain ⟨w17, rfl⟩ : ∃ x : World, x = wc := ⟨_, rfl⟩
                      obtain ⟨rfl, B_17, G_17, a0_17, a1_17, af_17, ag_17, b0_17, b1_17, bf_17, bg_17, s0_17, s1_17, sf_17, sg_17, x0_17, x1_17, xf_17, xg_17⟩ := hcut
                      have az_17 : w.heap.size < w17.heap.size := World.block_lt_of_cell? _ _ a0_17
                      have bz_17 : w.heap.size + 1 < w17.heap.size := World.block_lt_of_cell? _ _ b0_17
                      have sz_17 : w.heap.size + 1 + 1 < w17.heap.size := World.block_lt_of_cell? _ _ s0_17
                      have xz_17 : w4.heap.size < w17.heap.size := World.block_lt_of_cell? _ _ x0_17
                      have gz_17 : 0 < w17.heap.size := World.block_lt_of_cell? _ _ G_17
                      clear B_16 G_16 gz_16 a0_16 a1_16 az_16 af_16 ag_16 b0_16 b1_16 bz_16 bf_16 bg_16 s0_16 s1_16 sz_16 sf_16 sg_16 x0_16 x1_16 xz_16 xf_16 xg_16
                      go_upto_if 114 with fail
                      go_cut [11] (fun s11 wc => s11 = .int .i64 (byE t b n) ∧ Below w.heap.size w wc ∧ wc.cell? ⟨0, 0, none⟩ = some handleV ∧ wc.cell? ⟨w.heap.size, 0, none⟩ = some (.int .i64 (t)) ∧ wc.cell? ⟨w.heap.size, 1, none⟩ = some (.int .i64 (b)) ∧ wc.frozen? ⟨w.heap.size, 0, none⟩ = false ∧ wc.frozen? ⟨w.heap.size, 1, none⟩ = false ∧ wc.cell? ⟨w.heap.size + 1, 0, none⟩ = some (.int .i64 (u)) ∧ wc.cell? ⟨w.heap.size + 1, 1, none⟩ = some (.int .i64 (c)) ∧ wc.frozen? ⟨w.heap.size + 1, 0, none⟩ = false ∧ wc.frozen? ⟨w.heap.size + 1, 1, none⟩ = false ∧ wc.cell? ⟨w.heap.size + 1 + 1, 0, none⟩ = some (.int .i64 (byT t b n)) ∧ wc.cell? ⟨w.heap.size + 1 + 1, 1, none⟩ = some (.int .i64 (byB t b n)) ∧ wc.frozen? ⟨w.heap.size + 1 + 1, 0, none⟩ = false ∧ wc.frozen? ⟨w.heap.size + 1 + 1, 1, none⟩ = false ∧ wc.cell? ⟨w4.heap.size, 0, none⟩ = some (.int .i64 (timesT t b n)) ∧ wc.cell? ⟨w4.heap.size, 1, none⟩ = some (.int .i64 (timesB t b n)) ∧ wc.frozen? ⟨w4.heap.size, 0, none⟩ = false ∧ wc.frozen? ⟨w4.heap.size, 1, none⟩ = false)
                      case first =>
                        as_aux_lemma =>
                          by_cases h0 : fault t b = 0
                          · have qf : (fault t b == 0) = true := beq_iff_eq.2 h0
                            by_cases hn : 1 ≤ n ∧ n ≤ 1000
                            · obtain ⟨r1, r2⟩ := hn
                              have hn : 1 ≤ n ∧ n ≤ 1000 := ⟨r1, r2⟩
                              obtain rfl : ob114 = false := by rw [← hob114.out, outB, qf]; simp; omega
                              obtain ⟨m1, m2, m3, m4⟩ := fault_0 h0
                              obtain ⟨q1, q2⟩ := mul_bd (t := b) (c := n) (A := 100000000) (C := 1000) (by omega) (by omega) (by omega) (by omega)
                              have p4 : 1 ≤ b * n := Int.mul_pos (show 0 < b by omega) (show 0 < n by omega)
                              have HF : Hid (fault t b = 0) := h0
                              cases hm : mayB (lowT (t) (b * n)) (lowB (t) (b * n)) with
                              | true =>
                                have HG : Hid (bigB (lowT (t) (b * n)) (lowB (t) (b * n)) = false) := by show bigB _ _ = false; rw [bigB_low (by omega), hm]; rfl
                                have HT : Hid (byT t b n = lowT (t) (b * n)) := by show byT t b n = _; rw [byT, if_pos h0, if_pos hn, madeT, if_pos hm]
                                have HB : Hid (byB t b n = lowB (t) (b * n)) := by show byB t b n = _; rw [byB, if_pos h0, if_pos hn, madeB, if_pos hm]
                                have HE : Hid (byE t b n = 0) := by show byE t b n = _; rw [byE, if_pos h0, if_pos hn, madeE, if_pos hm]
                                clear h0 hn hm
                                go_wp2_with fail
                                refine (Low_any (t) (b * n) _ (by omega) (by omega) (by omega) (by omega)).mono ?_
                                rintro e w18 ⟨rfl, hb18⟩
                                have B_18 : Below w.heap.size w w18 := by
                                  refine Below.trans ?_ (hb18.mono (by first | exact B_17.size | (have := B_17.size; simp; omega)))
                                  repeat (first | exact B_17 | refine Below.setCell ?_ (by first | (simp; done) | (simp; omega) | omega) _ | refine Below.alloc ?_ (by first | omega | (simp; done) | (simp; omega)) _ | refine Below.drew ?_)
                                have G_18 : w18.cell? ⟨0, 0, none⟩ = some handleV := cell_later hb18 (by go_simp)
                                have a0_18 : w18.cell? ⟨w.heap.size, 0, none⟩ = some (.int .i64 (t)) := cell_later hb18 (by go_simp)
                                have a1_18 : w18.cell? ⟨w.heap.size, 1, none⟩ = some (.int .i64 (b)) := cell_later hb18 (by go_simp)
                                have af_18 : w18.frozen? ⟨w.heap.size, 0, none⟩ = false := (hb18.frozen (p := ⟨w.heap.size, 0, none⟩) (by first | (simp; done) | (simp; omega) | omega)).trans (by go_simp)
                                have ag_18 : w18.frozen? ⟨w.heap.size, 1, none⟩ = false := (hb18.frozen (p := ⟨w.heap.size, 1, none⟩) (by first | (simp; done) | (simp; omega) | omega)).trans (by go_simp)
                                have az_18 : w.heap.size < w18.heap.size := World.block_lt_of_cell? _ _ a0_18
                                have b0_18 : w18.cell? ⟨w.heap.size + 1, 0, none⟩ = some (.int .i64 (u)) := cell_later hb18 (by go_simp)
                                have b1_18 : w18.cell? ⟨w.heap.size + 1, 1, none⟩ = some (.int .i64 (c)) := cell_later hb18 (by go_simp)
                                have bf_18 : w18.frozen? ⟨w.heap.size + 1, 0, none⟩ = false := (hb18.frozen (p := ⟨w.heap.size + 1, 0, none⟩) (by first | (simp; done) | (simp; omega) | omega)).trans (by go_simp)
                                have bg_18 : w18.frozen? ⟨w.heap.size + 1, 1, none⟩ = false := (hb18.frozen (p := ⟨w.heap.size + 1, 1, none⟩) (by first | (simp; done) | (simp; omega) | omega)).trans (by go_simp)
                                have bz_18 : w.heap.size + 1 < w18.heap.size := World.block_lt_of_cell? _ _ b0_18
                                have s0_18 : w18.cell? ⟨w.heap.size + 1 + 1, 0, none⟩ = some (.int .i64 (0)) := cell_later hb18 (by go_simp)
                                have s1_18 : w18.cell? ⟨w.heap.size + 1 + 1, 1, none⟩ = some (.int .i64 (0)) := cell_later hb18 (by go_simp)
                                have sf_18 : w18.frozen? ⟨w.heap.size + 1 + 1, 0, none⟩ = false := (hb18.frozen (p := ⟨w.heap.size + 1 + 1, 0, none⟩) (by first | (simp; done) | (simp; omega) | omega)).trans (by go_simp)
                                have sg_18 : w18.frozen? ⟨w.heap.size + 1 + 1, 1, none⟩ = false := (hb18.frozen (p := ⟨w.heap.size + 1 + 1, 1, none⟩) (by first | (simp; done) | (simp; omega) | omega)).trans (by go_simp)
                                have sz_18 : w.heap.size + 1 + 1 < w18.heap.size := World.block_lt_of_cell? _ _ s0_18
                                have x0_18 : w18.cell? ⟨w4.heap.size, 0, none⟩ = some (.int .i64 (timesT t b n)) := cell_later hb18 (by go_simp)
                                have x1_18 : w18.cell? ⟨w4.heap.size, 1, none⟩ = some (.int .i64 (timesB t b n)) := cell_later hb18 (by go_simp)
                                have xf_18 : w18.frozen? ⟨w4.heap.size, 0, none⟩ = false := (hb18.frozen (p := ⟨w4.heap.size, 0, none⟩) (by first | (simp; done) | (simp; omega) | omega)).trans (by go_simp)
                                have xg_18 : w18.frozen? ⟨w4.heap.size, 1, none⟩ = false := (hb18.frozen (p := ⟨w4.heap.size, 1, none⟩) (by first | (simp; done) | (simp; omega) | omega)).trans (by go_simp)
                                have xz_18 : w4.heap.size < w18.heap.size := World.block_lt_of_cell? _ _ x0_18
                                have gz_18 : 0 < w18.heap.size := World.block_lt_of_cell? _ _ G_18
                                clear hb18
                                go_wp2_with fail
                                refine (Big_any (lowT (t) (b * n)) (lowB (t) (b * n)) _).mono ?_
                                rintro e w19 ⟨rfl, hb19⟩
                                rw [HG.out]
                                have B_19 : Below w.heap.size w w19 := by
                                  refine Below.trans ?_ (hb19.mono (by first | exact B_18.size | (have := B_18.size; simp; omega)))
                                  repeat (first | exact B_18 | refine Below.setCell ?_ (by first | (simp; done) | (simp; omega) | omega) _ | refine Below.alloc ?_ (by first | omega | (simp; done) | (simp; omega)) _ | refine Below.drew ?_)
                                have G_19 : w19.cell? ⟨0, 0, none⟩ = some handleV := cell_later hb19 (by go_simp)
                                have a0_19 : w19.cell? ⟨w.heap.size, 0, none⟩ = some (.int .i64 (t)) := cell_later hb19 (by go_simp)
                                have a1_19 : w19.cell? ⟨w.heap.size, 1, none⟩ = some (.int .i64 (b)) := cell_later hb19 (by go_simp)
                                have af_19 : w19.frozen? ⟨w.heap.size, 0, none⟩ = false := (hb19.frozen (p := ⟨w.heap.size, 0, none⟩) (by first | (simp; done) | (simp; omega) | omega)).trans (by go_simp)
                                have ag_19 : w19.frozen? ⟨w.heap.size, 1, none⟩ = false := (hb19.frozen (p := ⟨w.heap.size, 1, none⟩) (by first | (simp; done) | (simp; omega) | omega)).trans (by go_simp)
                                have az_19 : w.heap.size < w19.heap.size := World.block_lt_of_cell? _ _ a0_19
                                have b0_19 : w19.cell? ⟨w.heap.size + 1, 0, none⟩ = some (.int .i64 (u)) := cell_later hb19 (by go_simp)
                                have b1_19 : w19.cell? ⟨w.heap.size + 1, 1, none⟩ = some (.int .i64 (c)) := cell_later hb19 (by go_simp)
                                have bf_19 : w19.frozen? ⟨w.heap.size + 1, 0, none⟩ = false := (hb19.frozen (p := ⟨w.heap.size + 1, 0, none⟩) (by first | (simp; done) | (simp; omega) | omega)).trans (by go_simp)
                                have bg_19 : w19.frozen? ⟨w.heap.size + 1, 1, none⟩ = false := (hb19.frozen (p := ⟨w.heap.size + 1, 1, none⟩) (by first | (simp; done) | (simp; omega) | omega)).trans (by go_simp)
                                have bz_19 : w.heap.size + 1 < w19.heap.size := World.block_lt_of_cell? _ _ b0_19
                                have s0_19 : w19.cell? ⟨w.heap.size + 1 + 1, 0, none⟩ = some (.int .i64 (lowT (t) (b * n))) := cell_later hb19 (by go_simp)
                                have s1_19 : w19.cell? ⟨w.heap.size + 1 + 1, 1, none⟩ = some (.int .i64 (lowB (t) (b * n))) := cell_later hb19 (by go_simp)
                                have sf_19 : w19.frozen? ⟨w.heap.size + 1 + 1, 0, none⟩ = false := (hb19.frozen (p := ⟨w.heap.size + 1 + 1, 0, none⟩) (by first | (simp; done) | (simp; omega) | omega)).trans (by go_simp)
                                have sg_19 : w19.frozen? ⟨w.heap.size + 1 + 1, 1, none⟩ = false := (hb19.frozen (p := ⟨w.heap.size + 1 + 1, 1, none⟩) (by first | (simp; done) | (simp; omega) | omega)).trans (by go_simp)
                                have sz_19 : w.heap.size + 1 + 1 < w19.heap.size := World.block_lt_of_cell? _ _ s0_19
                                have x0_19 : w19.cell? ⟨w4.heap.size, 0, none⟩ = some (.int .i64 (timesT t b n)) := cell_later hb19 (by go_simp)
                                have x1_19 : w19.cell? ⟨w4.heap.size, 1, none⟩ = some (.int .i64 (timesB t b n)) := cell_later hb19 (by go_simp)
                                have xf_19 : w19.frozen? ⟨w4.heap.size, 0, none⟩ = false := (hb19.frozen (p := ⟨w4.heap.size, 0, none⟩) (by first | (simp; done) | (simp; omega) | omega)).trans (by go_simp)
                                have xg_19 : w19.frozen? ⟨w4.heap.size, 1, none⟩ = false := (hb19.frozen (p := ⟨w4.heap.size, 1, none⟩) (by first | (simp; done) | (simp; omega) | omega)).trans (by go_simp)
                                have xz_19 : w4.heap.size < w19.heap.size := World.block_lt_of_cell? _ _ x0_19
                                have gz_19 : 0 < w19.heap.size := World.block_lt_of_cell? _ _ G_19
                                clear hb19 B_18 G_18 gz_18 a0_18 a1_18 az_18 af_18 ag_18 b0_18 b1_18 bz_18 bf_18 bg_18 s0_18 s1_18 sz_18 sf_18 sg_18 x0_18 x1_18 xz_18 xf_18 xg_18
                                go_wp2
                                go_meet
                                case rel =>
                                  refine ⟨?_, ?_, ?_, ?_, ?_, ?_, ?_, ?_, ?_, ?_, ?_, ?_, ?_, ?_, ?_, ?_, ?_, ?_, ?_⟩
                                  · rw [HE.out, HF.out]
                                  · repeat (first | exact B_19 | refine Below.setCell ?_ (by first | (simp; done) | (simp; omega) | omega) _ | refine Below.alloc ?_ (by first | omega | (simp; done) | (simp; omega)) _ | refine Below.drew ?_)
                                  · go_simp
                                  · go_simp
                                  · go_simp
                                  · go_simp
                                  · go_simp
                                  · go_simp
                                  · go_simp
                                  · go_simp
                                  · go_simp
                                  · rw [HT.out]; go_simp
                                  · rw [HB.out]; go_simp
                                  · go_simp
                                  · go_simp
                                  · go_simp
                                  · go_simp
                                  · go_simp
                                  · go_simp
                              | false =>
                                have hm' : ¬ mayB (lowT (t) (b * n)) (lowB (t) (b * n)) = true := by rw [hm]; decide
                                have HG : Hid (bigB (lowT (t) (b * n)) (lowB (t) (b * n)) = true) := by show bigB _ _ = true; rw [bigB_low (by omega), hm]; rfl
                                have HT : Hid (byT t b n = 0) := by show byT t b n = _; rw [byT, if_pos h0, if_pos hn, madeT, if_neg hm']
                                have HB : Hid (byB t b n = 0) := by show byB t b n = _; rw [byB, if_pos h0, if_pos hn, madeB, if_neg hm']
                                have HE : Hid (byE t b n = 4) := by show byE t b n = _; rw [byE, if_pos h0, if_pos hn, madeE, if_neg hm']
                                clear h0 hn hm hm'
                                go_wp2_with fail
                                refine (Low_any (t) (b * n) _ (by omega) (by omega) (by omega) (by omega)).mono ?_
                                rintro e w20 ⟨rfl, hb20⟩
                                have B_20 : Below w.heap.size w w20 := by
                                  refine Below.trans ?_ (hb20.mono (by first | exact B_17.size | (have := B_17.size; simp; omega)))
                                  repeat (first | exact B_17 | refine Below.setCell ?_ (by first | (simp; done) | (simp; omega) | omega) _ | refine Below.alloc ?_ (by first | omega | (simp; done) | (simp; omega)) _ | refine Below.drew ?_)
                                have G_20 : w20.cell? ⟨0, 0, none⟩ = some handleV := cell_later hb20 (by go_simp)
                                have a0_20 : w20.cell? ⟨w.heap.size, 0, none⟩ = some (.int .i64 (t)) := cell_later hb20 (by go_simp)
                                have a1_20 : w20.cell? ⟨w.heap.size, 1, none⟩ = some (.int .i64 (b)) := cell_later hb20 (by go_simp)
                                have af_20 : w20.frozen? ⟨w.heap.size, 0, none⟩ = false := (hb20.frozen (p := ⟨w.heap.size, 0, none⟩) (by first | (simp; done) | (simp; omega) | omega)).trans (by go_simp)
                                have ag_20 : w20.frozen? ⟨w.heap.size, 1, none⟩ = false := (hb20.frozen (p := ⟨w.heap.size, 1, none⟩) (by first | (simp; done) | (simp; omega) | omega)).trans (by go_simp)
                                have az_20 : w.heap.size < w20.heap.size := World.block_lt_of_cell? _ _ a0_20
                                have b0_20 : w20.cell? ⟨w.heap.size + 1, 0, none⟩ = some (.int .i64 (u)) := cell_later hb20 (by go_simp)
                                have b1_20 : w20.cell? ⟨w.heap.size + 1, 1, none⟩ = some (.int .i64 (c)) := cell_later hb20 (by go_simp)
                                have bf_20 : w20.frozen? ⟨w.heap.size + 1, 0, none⟩ = false := (hb20.frozen (p := ⟨w.heap.size + 1, 0, none⟩) (by first | (simp; done) | (simp; omega) | omega)).trans (by go_simp)
                                have bg_20 : w20.frozen? ⟨w.heap.size + 1, 1, none⟩ = false := (hb20.frozen (p := ⟨w.heap.size + 1, 1, none⟩) (by first | (simp; done) | (simp; omega) | omega)).trans (by go_simp)
                                have bz_20 : w.heap.size + 1 < w20.heap.size := World.block_lt_of_cell? _ _ b0_20
                                have s0_20 : w20.cell? ⟨w.heap.size + 1 + 1, 0, none⟩ = some (.int .i64 (0)) := cell_later hb20 (by go_simp)
                                have s1_20 : w20.cell? ⟨w.heap.size + 1 + 1, 1, none⟩ = some (.int .i64 (0)) := cell_later hb20 (by go_simp)
                                have sf_20 : w20.frozen? ⟨w.heap.size + 1 + 1, 0, none⟩ = false := (hb20.frozen (p := ⟨w.heap.size + 1 + 1, 0, none⟩) (by first | (simp; done) | (simp; omega) | omega)).trans (by go_simp)
                                have sg_20 : w20.frozen? ⟨w.heap.size + 1 + 1, 1, none⟩ = false := (hb20.frozen (p := ⟨w.heap.size + 1 + 1, 1, none⟩) (by first | (simp; done) | (simp; omega) | omega)).trans (by go_simp)
                                have sz_20 : w.heap.size + 1 + 1 < w20.heap.size := World.block_lt_of_cell? _ _ s0_20
                                have x0_20 : w20.cell? ⟨w4.heap.size, 0, none⟩ = some (.int .i64 (timesT t b n)) := cell_later hb20 (by go_simp)
                                have x1_20 : w20.cell? ⟨w4.heap.size, 1, none⟩ = some (.int .i64 (timesB t b n)) := cell_later hb20 (by go_simp)
                                have xf_20 : w20.frozen? ⟨w4.heap.size, 0, none⟩ = false := (hb20.frozen (p := ⟨w4.heap.size, 0, none⟩) (by first | (simp; done) | (simp; omega) | omega)).trans (by go_simp)
                                have xg_20 : w20.frozen? ⟨w4.heap.size, 1, none⟩ = false := (hb20.frozen (p := ⟨w4.heap.size, 1, none⟩) (by first | (simp; done) | (simp; omega) | omega)).trans (by go_simp)
                                have xz_20 : w4.heap.size < w20.heap.size := World.block_lt_of_cell? _ _ x0_20
                                have gz_20 : 0 < w20.heap.size := World.block_lt_of_cell? _ _ G_20
                                clear hb20
                                go_wp2_with fail
                                refine (Big_any (lowT (t) (b * n)) (lowB (t) (b * n)) _).mono ?_
                                rintro e w21 ⟨rfl, hb21⟩
                                rw [HG.out]
                                have B_21 : Below w.heap.size w w21 := by
                                  refine Below.trans ?_ (hb21.mono (by first | exact B_20.size | (have := B_20.size; simp; omega)))
                                  repeat (first | exact B_20 | refine Below.setCell ?_ (by first | (simp; done) | (simp; omega) | omega) _ | refine Below.alloc ?_ (by first | omega | (simp; done) | (simp; omega)) _ | refine Below.drew ?_)
                                have G_21 : w21.cell? ⟨0, 0, none⟩ = some handleV := cell_later hb21 (by go_simp)
                                have a0_21 : w21.cell? ⟨w.heap.size, 0, none⟩ = some (.int .i64 (t)) := cell_later hb21 (by go_simp)
                                have a1_21 : w21.cell? ⟨w.heap.size, 1, none⟩ = some (.int .i64 (b)) := cell_later hb21 (by go_simp)
                                have af_21 : w21.frozen? ⟨w.heap.size, 0, none⟩ = false := (hb21.frozen (p := ⟨w.heap.size, 0, none⟩) (by first | (simp; done) | (simp; omega) | omega)).trans (by go_simp)
                                have ag_21 : w21.frozen? ⟨w.heap.size, 1, none⟩ = false := (hb21.frozen (p := ⟨w.heap.size, 1, none⟩) (by first | (simp; done) | (simp; omega) | omega)).trans (by go_simp)
                                have az_21 : w.heap.size < w21.heap.size := World.block_lt_of_cell? _ _ a0_21
                                have b0_21 : w21.cell? ⟨w.heap.size + 1, 0, none⟩ = some (.int .i64 (u)) := cell_later hb21 (by go_simp)
                                have b1_21 : w21.cell? ⟨w.heap.size + 1, 1, none⟩ = some (.int .i64 (c)) := cell_later hb21 (by go_simp)
                                have bf_21 : w21.frozen? ⟨w.heap.size + 1, 0, none⟩ = false := (hb21.frozen (p := ⟨w.heap.size + 1, 0, none⟩) (by first | (simp; done) | (simp; omega) | omega)).trans (by go_simp)
                                have bg_21 : w21.frozen? ⟨w.heap.size + 1, 1, none⟩ = false := (hb21.frozen (p := ⟨w.heap.size + 1, 1, none⟩) (by first | (simp; done) | (simp; omega) | omega)).trans (by go_simp)
                                have bz_21 : w.heap.size + 1 < w21.heap.size := World.block_lt_of_cell? _ _ b0_21
                                have s0_21 : w21.cell? ⟨w.heap.size + 1 + 1, 0, none⟩ = some (.int .i64 (lowT (t) (b * n))) := cell_later hb21 (by go_simp)
                                have s1_21 : w21.cell? ⟨w.heap.size + 1 + 1, 1, none⟩ = some (.int .i64 (lowB (t) (b * n))) := cell_later hb21 (by go_simp)
                                have sf_21 : w21.frozen? ⟨w.heap.size + 1 + 1, 0, none⟩ = false := (hb21.frozen (p := ⟨w.heap.size + 1 + 1, 0, none⟩) (by first | (simp; done) | (simp; omega) | omega)).trans (by go_simp)
                                have sg_21 : w21.frozen? ⟨w.heap.size + 1 + 1, 1, none⟩ = false := (hb21.frozen (p := ⟨w.heap.size + 1 + 1, 1, none⟩) (by first | (simp; done) | (simp; omega) | omega)).trans (by go_simp)
                                have sz_21 : w.heap.size + 1 + 1 < w21.heap.size := World.block_lt_of_cell? _ _ s0_21
                                have x0_21 : w21.cell? ⟨w4.heap.size, 0, none⟩ = some (.int .i64 (timesT t b n)) := cell_later hb21 (by go_simp)
                                have x1_21 : w21.cell? ⟨w4.heap.size, 1, none⟩ = some (.int .i64 (timesB t b n)) := cell_later hb21 (by go_simp)
                                have xf_21 : w21.frozen? ⟨w4.heap.size, 0, none⟩ = false := (hb21.frozen (p := ⟨w4.heap.size, 0, none⟩) (by first | (simp; done) | (simp; omega) | omega)).trans (by go_simp)
                                have xg_21 : w21.frozen? ⟨w4.heap.size, 1, none⟩ = false := (hb21.frozen (p := ⟨w4.heap.size, 1, none⟩) (by first | (simp; done) | (simp; omega) | omega)).trans (by go_simp)
                                have xz_21 : w4.heap.size < w21.heap.size := World.block_lt_of_cell? _ _ x0_21
                                have gz_21 : 0 < w21.heap.size := World.block_lt_of_cell? _ _ G_21
                                clear hb21 B_20 G_20 gz_20 a0_20 a1_20 az_20 af_20 ag_20 b0_20 b1_20 bz_20 bf_20 bg_20 s0_20 s1_20 sz_20 sf_20 sg_20 x0_20 x1_20 xz_20 xf_20 xg_20
                                go_wp2
                                go_meet
                                case rel =>
                                  refine ⟨?_, ?_, ?_, ?_, ?_, ?_, ?_, ?_, ?_, ?_, ?_, ?_, ?_, ?_, ?_, ?_, ?_, ?_, ?_⟩
                                  · rw [HE.out]
                                  · repeat (first | exact B_21 | refine Below.setCell ?_ (by first | (simp; done) | (simp; omega) | omega) _ | refine Below.alloc ?_ (by first | omega | (simp; done) | (simp; omega)) _ | refine Below.drew ?_)
                                  · go_simp
                                  · go_simp
                                  · go_simp
                                  · go_simp
                                  · go_simp
                                  · go_simp
                                  · go_simp
                                  · go_simp
                                  · go_simp
                                  · rw [HT.out]; go_simp
                                  · rw [HB.out]; go_simp
                                  · go_simp
                                  · go_simp
                                  · go_simp
                                  · go_simp
                                  · go_simp
                                  · go_simp
                            · obtain rfl : ob114 = true := by rw [← hob114.out, outB, qf]; simp; omega
                              have HT : Hid (byT t b n = 0) := by show byT t b n = _; rw [byT, if_pos h0, if_neg hn]
                              have HB : Hid (byB t b n = 0) := by show byB t b n = _; rw [byB, if_pos h0, if_neg hn]
                              have HE : Hid (byE t b n = 1) := by show byE t b n = _; rw [byE, if_pos h0, if_neg hn]
                              clear h0 hn
                              go_wp2
                              go_meet
                              case rel =>
                                refine ⟨?_, ?_, ?_, ?_, ?_, ?_, ?_, ?_, ?_, ?_, ?_, ?_, ?_, ?_, ?_, ?_, ?_, ?_, ?_⟩
                                · rw [HE.out]
                                · repeat (first | exact B_17 | refine Below.setCell ?_ (by first | (simp; done) | (simp; omega) | omega) _ | refine Below.alloc ?_ (by first | omega | (simp; done) | (simp; omega)) _ | refine Below.drew ?_)
                                · go_simp
                                · go_simp
                                · go_simp
                                · go_simp
                                · go_simp
                                · go_simp
                                · go_simp
                                · go_simp
                                · go_simp
                                · rw [HT.out]; go_simp
                                · rw [HB.out]; go_simp
                                · go_simp
                                · go_simp
                                · go_simp
                                · go_simp
                                · go_simp
                                · go_simp
                          · have qf : (fault t b == 0) = false := beq_eq_false_iff_ne.2 h0
                            obtain rfl : ob114 = false := by rw [← hob114.out, outB, qf]; rfl
                            have HT : Hid (byT t b n = 0) := by show byT t b n = _; rw [byT, if_neg h0]
                            have HB : Hid (byB t b n = 0) := by show byB t b n = _; rw [byB, if_neg h0]
                            have HE : Hid (byE t b n = fault t b) := by show byE t b n = _; rw [byE, if_neg h0]
                            clear h0
                            go_wp2
                            go_meet
                            case rel =>
                              refine ⟨?_, ?_, ?_, ?_, ?_, ?_, ?_, ?_, ?_, ?_, ?_, ?_, ?_, ?_, ?_, ?_, ?_, ?_, ?_⟩
                              · rw [HE.out]
                              · repeat (first | exact B_17 | refine Below.setCell ?_ (by first | (simp; done) | (simp; omega) | omega) _ | refine Below.alloc ?_ (by first | omega | (simp; done) | (simp; omega)) _ | refine Below.drew ?_)
                              · go_simp
                              · go_simp
                              · go_simp
                              · go_simp
                              · go_simp
                              · go_simp
                              · go_simp
                              · go_simp
                              · go_simp
                              · rw [HT.out]; go_simp
                              · rw [HB.out]; go_simp
                              · go_simp
                              · go_simp
                              · go_simp
                              · go_simp
                              · go_simp
                              · go_simp
                      case rest =>
                        as_aux_lemma =>
                          obtain ⟨w22, rfl⟩ : ∃ x : World, x = wc := ⟨_, rfl⟩
                          obtain ⟨rfl, B_22, G_22, a0_22, a1_22, af_22, ag_22, b0_22, b1_22, bf_22, bg_22, s0_22, s1_22, sf_22, sg_22, x0_22, x1_22, xf_22, xg_22⟩ := hcut
                          have az_22 : w.heap.size < w22.heap.size := World.block_lt_of_cell? _ _ a0_22
                          have bz_22 : w.heap.size + 1 < w22.heap.size := World.block_lt_of_cell? _ _ b0_22
                          have sz_22 : w.heap.size + 1 + 1 < w22.heap.size := World.block_lt_of_cell? _ _ s0_22
                          have xz_22 : w4.heap.size < w22.heap.size := World.block_lt_of_cell? _ _ x0_22
                          have gz_22 : 0 < w22.heap.size := World.block_lt_of_cell? _ _ G_22
                          clear B_17 G_17 gz_17 a0_17 a1_17 az_17 af_17 ag_17 b0_17 b1_17 bz_17 bf_17 bg_17 s0_17 s1_17 sz_17 sf_17 sg_17 x0_17 x1_17 xz_17 xf_17 xg_17
                          go_wp2_with fail
                          refine (By_any t b n _).mono ?_
                          rintro e w23 ⟨rfl, hb23⟩
                          rw [pairV]
                          have B_23 : Below w.heap.size w w23 := by
                            refine Below.trans ?_ (hb23.mono (by first | exact B_22.size | (have := B_22.size; simp; omega)))
                            repeat (first | exact B_22 | refine Below.setCell ?_ (by first | (simp; done) | (simp; omega) | omega) _ | refine Below.alloc ?_ (by first | omega | (simp; done) | (simp; omega)) _ | refine Below.drew ?_)
                          have G_23 : w23.cell? ⟨0, 0, none⟩ = some handleV := cell_later hb23 (by go_simp)
                          have a0_23 : w23.cell? ⟨w.heap.size, 0, none⟩ = some (.int .i64 (t)) := cell_later hb23 (by go_simp)
                          have a1_23 : w23.cell? ⟨w.heap.size, 1, none⟩ = some (.int .i64 (b)) := cell_later hb23 (by go_simp)
                          have af_23 : w23.frozen? ⟨w.heap.size, 0, none⟩ = false := (hb23.frozen (p := ⟨w.heap.size, 0, none⟩) (by first | (simp; done) | (simp; omega) | omega)).trans (by go_simp)
                          have ag_23 : w23.frozen? ⟨w.heap.size, 1, none⟩ = false := (hb23.frozen (p := ⟨w.heap.size, 1, none⟩) (by first | (simp; done) | (simp; omega) | omega)).trans (by go_simp)
                          have az_23 : w.heap.size < w23.heap.size := World.block_lt_of_cell? _ _ a0_23
                          have b0_23 : w23.cell? ⟨w.heap.size + 1, 0, none⟩ = some (.int .i64 (u)) := cell_later hb23 (by go_simp)
                          have b1_23 : w23.cell? ⟨w.heap.size + 1, 1, none⟩ = some (.int .i64 (c)) := cell_later hb23 (by go_simp)
                          have bf_23 : w23.frozen? ⟨w.heap.size + 1, 0, none⟩ = false := (hb23.frozen (p := ⟨w.heap.size + 1, 0, none⟩) (by first | (simp; done) | (simp; omega) | omega)).trans (by go_simp)
                          have bg_23 : w23.frozen? ⟨w.heap.size + 1, 1, none⟩ = false := (hb23.frozen (p := ⟨w.heap.size + 1, 1, none⟩) (by first | (simp; done) | (simp; omega) | omega)).trans (by go_simp)
                          have bz_23 : w.heap.size + 1 < w23.heap.size := World.block_lt_of_cell? _ _ b0_23
                          have s0_23 : w23.cell? ⟨w.heap.size + 1 + 1, 0, none⟩ = some (.int .i64 (byT t b n)) := cell_later hb23 (by go_simp)
                          have s1_23 : w23.cell? ⟨w.heap.size + 1 + 1, 1, none⟩ = some (.int .i64 (byB t b n)) := cell_later hb23 (by go_simp)
                          have sf_23 : w23.frozen? ⟨w.heap.size + 1 + 1, 0, none⟩ = false := (hb23.frozen (p := ⟨w.heap.size + 1 + 1, 0, none⟩) (by first | (simp; done) | (simp; omega) | omega)).trans (by go_simp)
                          have sg_23 : w23.frozen? ⟨w.heap.size + 1 + 1, 1, none⟩ = false := (hb23.frozen (p := ⟨w.heap.size + 1 + 1, 1, none⟩) (by first | (simp; done) | (simp; omega) | omega)).trans (by go_simp)
                          have sz_23 : w.heap.size + 1 + 1 < w23.heap.size := World.block_lt_of_cell? _ _ s0_23
                          have x0_23 : w23.cell? ⟨w4.heap.size, 0, none⟩ = some (.int .i64 (timesT t b n)) := cell_later hb23 (by go_simp)
                          have x1_23 : w23.cell? ⟨w4.heap.size, 1, none⟩ = some (.int .i64 (timesB t b n)) := cell_later hb23 (by go_simp)
                          have xf_23 : w23.frozen? ⟨w4.heap.size, 0, none⟩ = false := (hb23.frozen (p := ⟨w4.heap.size, 0, none⟩) (by first | (simp; done) | (simp; omega) | omega)).trans (by go_simp)
                          have xg_23 : w23.frozen? ⟨w4.heap.size, 1, none⟩ = false := (hb23.frozen (p := ⟨w4.heap.size, 1, none⟩) (by first | (simp; done) | (simp; omega) | omega)).trans (by go_simp)
                          have xz_23 : w4.heap.size < w23.heap.size := World.block_lt_of_cell? _ _ x0_23
                          have gz_23 : 0 < w23.heap.size := World.block_lt_of_cell? _ _ G_23
                          clear hb23 B_22 G_22 gz_22 a0_22 a1_22 az_22 af_22 ag_22 b0_22 b1_22 bz_22 bf_22 bg_22 s0_22 s1_22 sz_22 sf_22 sg_22 x0_22 x1_22 xz_22 xf_22 xg_22
                          go_wp2_with fail
                          refine (Error_any (byE t b n) (byE t b n) _ (by go_simp)).mono ?_
                          rintro e w24 ⟨rfl, hb24⟩
                          rw [E1.out]
                          have B_24 : Below w.heap.size w w24 := by
                            refine Below.trans ?_ (hb24.mono (by first | exact B_23.size | (have := B_23.size; simp; omega)))
                            repeat (first | exact B_23 | refine Below.setCell ?_ (by first | (simp; done) | (simp; omega) | omega) _ | refine Below.alloc ?_ (by first | omega | (simp; done) | (simp; omega)) _ | refine Below.drew ?_)
                          have G_24 : w24.cell? ⟨0, 0, none⟩ = some handleV := cell_later hb24 (by go_simp)
                          have a0_24 : w24.cell? ⟨w.heap.size, 0, none⟩ = some (.int .i64 (t)) := cell_later hb24 (by go_simp)
                          have a1_24 : w24.cell? ⟨w.heap.size, 1, none⟩ = some (.int .i64 (b)) := cell_later hb24 (by go_simp)
                          have af_24 : w24.frozen? ⟨w.heap.size, 0, none⟩ = false := (hb24.frozen (p := ⟨w.heap.size, 0, none⟩) (by first | (simp; done) | (simp; omega) | omega)).trans (by go_simp)
                          have ag_24 : w24.frozen? ⟨w.heap.size, 1, none⟩ = false := (hb24.frozen (p := ⟨w.heap.size, 1, none⟩) (by first | (simp; done) | (simp; omega) | omega)).trans (by go_simp)
                          have az_24 : w.heap.size < w24.heap.size := World.block_lt_of_cell? _ _ a0_24
                          have b0_24 : w24.cell? ⟨w.heap.size + 1, 0, none⟩ = some (.int .i64 (u)) := cell_later hb24 (by go_simp)
                          have b1_24 : w24.cell? ⟨w.heap.size + 1, 1, none⟩ = some (.int .i64 (c)) := cell_later hb24 (by go_simp)
                          have bf_24 : w24.frozen? ⟨w.heap.size + 1, 0, none⟩ = false := (hb24.frozen (p := ⟨w.heap.size + 1, 0, none⟩) (by first | (simp; done) | (simp; omega) | omega)).trans (by go_simp)
                          have bg_24 : w24.frozen? ⟨w.heap.size + 1, 1, none⟩ = false := (hb24.frozen (p := ⟨w.heap.size + 1, 1, none⟩) (by first | (simp; done) | (simp; omega) | omega)).trans (by go_simp)
                          have bz_24 : w.heap.size + 1 < w24.heap.size := World.block_lt_of_cell? _ _ b0_24
                          have s0_24 : w24.cell? ⟨w.heap.size + 1 + 1, 0, none⟩ = some (.int .i64 (byT t b n)) := cell_later hb24 (by go_simp)
                          have s1_24 : w24.cell? ⟨w.heap.size + 1 + 1, 1, none⟩ = some (.int .i64 (byB t b n)) := cell_later hb24 (by go_simp)
                          have sf_24 : w24.frozen? ⟨w.heap.size + 1 + 1, 0, none⟩ = false := (hb24.frozen (p := ⟨w.heap.size + 1 + 1, 0, none⟩) (by first | (simp; done) | (simp; omega) | omega)).trans (by go_simp)
                          have sg_24 : w24.frozen? ⟨w.heap.size + 1 + 1, 1, none⟩ = false := (hb24.frozen (p := ⟨w.heap.size + 1 + 1, 1, none⟩) (by first | (simp; done) | (simp; omega) | omega)).trans (by go_simp)
                          have sz_24 : w.heap.size + 1 + 1 < w24.heap.size := World.block_lt_of_cell? _ _ s0_24
                          have x0_24 : w24.cell? ⟨w4.heap.size, 0, none⟩ = some (.int .i64 (byT t b n)) := cell_later hb24 (by go_simp)
                          have x1_24 : w24.cell? ⟨w4.heap.size, 1, none⟩ = some (.int .i64 (byB t b n)) := cell_later hb24 (by go_simp)
                          have xf_24 : w24.frozen? ⟨w4.heap.size, 0, none⟩ = false := (hb24.frozen (p := ⟨w4.heap.size, 0, none⟩) (by first | (simp; done) | (simp; omega) | omega)).trans (by go_simp)
                          have xg_24 : w24.frozen? ⟨w4.heap.size, 1, none⟩ = false := (hb24.frozen (p := ⟨w4.heap.size, 1, none⟩) (by first | (simp; done) | (simp; omega) | omega)).trans (by go_simp)
                          have xz_24 : w4.heap.size < w24.heap.size := World.block_lt_of_cell? _ _ x0_24
                          have gz_24 : 0 < w24.heap.size := World.block_lt_of_cell? _ _ G_24
                          clear hb24 B_23 G_23 gz_23 a0_23 a1_23 az_23 af_23 ag_23 b0_23 b1_23 bz_23 bf_23 bg_23 s0_23 s1_23 sz_23 sf_23 sg_23 x0_23 x1_23 xz_23 xf_23 xg_23
                          go_upto_if 143 with fail
                          go_cut [16] (fun s16 wc => s16 = .int .i64 (fault2 t b u c) ∧ Below w.heap.size w wc ∧ wc.cell? ⟨0, 0, none⟩ = some handleV ∧ wc.cell? ⟨w.heap.size, 0, none⟩ = some (.int .i64 (t)) ∧ wc.cell? ⟨w.heap.size, 1, none⟩ = some (.int .i64 (b)) ∧ wc.frozen? ⟨w.heap.size, 0, none⟩ = false ∧ wc.frozen? ⟨w.heap.size, 1, none⟩ = false ∧ wc.cell? ⟨w.heap.size + 1, 0, none⟩ = some (.int .i64 (u)) ∧ wc.cell? ⟨w.heap.size + 1, 1, none⟩ = some (.int .i64 (c)) ∧ wc.frozen? ⟨w.heap.size + 1, 0, none⟩ = false ∧ wc.frozen? ⟨w.heap.size + 1, 1, none⟩ = false ∧ wc.cell? ⟨w.heap.size + 1 + 1, 0, none⟩ = some (.int .i64 (byT t b n)) ∧ wc.cell? ⟨w.heap.size + 1 + 1, 1, none⟩ = some (.int .i64 (byB t b n)) ∧ wc.frozen? ⟨w.heap.size + 1 + 1, 0, none⟩ = false ∧ wc.frozen? ⟨w.heap.size + 1 + 1, 1, none⟩ = false ∧ wc.cell? ⟨w4.heap.size, 0, none⟩ = some (.int .i64 (byT t b n)) ∧ wc.cell? ⟨w4.heap.size, 1, none⟩ = some (.int .i64 (byB t b n)) ∧ wc.frozen? ⟨w4.heap.size, 0, none⟩ = false ∧ wc.frozen? ⟨w4.heap.size, 1, none⟩ = false)
                          case first =>
                            as_aux_lemma =>
                              by_cases h0 : fault t b = 0
                              · have qf : (fault t b == 0) = true := beq_iff_eq.2 h0
                                have HE : Hid (fault2 t b u c = fault u c) := by show fault2 t b u c = _; rw [fault2, if_pos h0]
                                clear h0
                                go_wp2_with fail
                                refine (RFrac_any u c _).mono ?_
                                rintro e w25 ⟨rfl, hb25⟩
                                have B_25 : Below w.heap.size w w25 := by
                                  refine Below.trans ?_ (hb25.mono (by first | exact B_24.size | (have := B_24.size; simp; omega)))
                                  repeat (first | exact B_24 | refine Below.setCell ?_ (by first | (simp; done) | (simp; omega) | omega) _ | refine Below.alloc ?_ (by first | omega | (simp; done) | (simp; omega)) _ | refine Below.drew ?_)
                                have G_25 : w25.cell? ⟨0, 0, none⟩ = some handleV := cell_later hb25 (by go_simp)
                                have a0_25 : w25.cell? ⟨w.heap.size, 0, none⟩ = some (.int .i64 (t)) := cell_later hb25 (by go_simp)
                                have a1_25 : w25.cell? ⟨w.heap.size, 1, none⟩ = some (.int .i64 (b)) := cell_later hb25 (by go_simp)
                                have af_25 : w25.frozen? ⟨w.heap.size, 0, none⟩ = false := (hb25.frozen (p := ⟨w.heap.size, 0, none⟩) (by first | (simp; done) | (simp; omega) | omega)).trans (by go_simp)
                                have ag_25 : w25.frozen? ⟨w.heap.size, 1, none⟩ = false := (hb25.frozen (p := ⟨w.heap.size, 1, none⟩) (by first | (simp; done) | (simp; omega) | omega)).trans (by go_simp)
                                have az_25 : w.heap.size < w25.heap.size := World.block_lt_of_cell? _ _ a0_25
                                have b0_25 : w25.cell? ⟨w.heap.size + 1, 0, none⟩ = some (.int .i64 (u)) := cell_later hb25 (by go_simp)
                                have b1_25 : w25.cell? ⟨w.heap.size + 1, 1, none⟩ = some (.int .i64 (c)) := cell_later hb25 (by go_simp)
                                have bf_25 : w25.frozen? ⟨w.heap.size + 1, 0, none⟩ = false := (hb25.frozen (p := ⟨w.heap.size + 1, 0, none⟩) (by first | (simp; done) | (simp; omega) | omega)).trans (by go_simp)
                                have bg_25 : w25.frozen? ⟨w.heap.size + 1, 1, none⟩ = false := (hb25.frozen (p := ⟨w.heap.size + 1, 1, none⟩) (by first | (simp; done) | (simp; omega) | omega)).trans (by go_simp)
                                have bz_25 : w.heap.size + 1 < w25.heap.size := World.block_lt_of_cell? _ _ b0_25
                                have s0_25 : w25.cell? ⟨w.heap.size + 1 + 1, 0, none⟩ = some (.int .i64 (byT t b n)) := cell_later hb25 (by go_simp)
                                have s1_25 : w25.cell? ⟨w.heap.size + 1 + 1, 1, none⟩ = some (.int .i64 (byB t b n)) := cell_later hb25 (by go_simp)
                                have sf_25 : w25.frozen? ⟨w.heap.size + 1 + 1, 0, none⟩ = false := (hb25.frozen (p := ⟨w.heap.size + 1 + 1, 0, none⟩) (by first | (simp; done) | (simp; omega) | omega)).trans (by go_simp)
                                have sg_25 : w25.frozen? ⟨w.heap.size + 1 + 1, 1, none⟩ = false := (hb25.frozen (p := ⟨w.heap.size + 1 + 1, 1, none⟩) (by first | (simp; done) | (simp; omega) | omega)).trans (by go_simp)
                                have sz_25 : w.heap.size + 1 + 1 < w25.heap.size := World.block_lt_of_cell? _ _ s0_25
                                have x0_25 : w25.cell? ⟨w4.heap.size, 0, none⟩ = some (.int .i64 (byT t b n)) := cell_later hb25 (by go_simp)
                                have x1_25 : w25.cell? ⟨w4.heap.size, 1, none⟩ = some (.int .i64 (byB t b n)) := cell_later hb25 (by go_simp)
                                have xf_25 : w25.frozen? ⟨w4.heap.size, 0, none⟩ = false := (hb25.frozen (p := ⟨w4.heap.size, 0, none⟩) (by first | (simp; done) | (simp; omega) | omega)).trans (by go_simp)
                                have xg_25 : w25.frozen? ⟨w4.heap.size, 1, none⟩ = false := (hb25.frozen (p := ⟨w4.heap.size, 1, none⟩) (by first | (simp; done) | (simp; omega) | omega)).trans (by go_simp)
                                have xz_25 : w4.heap.size < w25.heap.size := World.block_lt_of_cell? _ _ x0_25
                                have gz_25 : 0 < w25.heap.size := World.block_lt_of_cell? _ _ G_25
                                clear hb25
                                go_wp2
                                go_meet
                                case rel =>
                                  refine ⟨?_, ?_, ?_, ?_, ?_, ?_, ?_, ?_, ?_, ?_, ?_, ?_, ?_, ?_, ?_, ?_, ?_, ?_, ?_⟩
                                  · rw [HE.out]
                                  · repeat (first | exact B_25 | refine Below.setCell ?_ (by first | (simp; done) | (simp; omega) | omega) _ | refine Below.alloc ?_ (by first | omega | (simp; done) | (simp; omega)) _ | refine Below.drew ?_)
                                  · go_simp
                                  · go_simp
                                  · go_simp
                                  · go_simp
                                  · go_simp
                                  · go_simp
                                  · go_simp
                                  · go_simp
                                  · go_simp
                                  · go_simp
                                  · go_simp
                                  · go_simp
                                  · go_simp
                                  · go_simp
                                  · go_simp
                                  · go_simp
                                  · go_simp
                              · have qf : (fault t b == 0) = false := beq_eq_false_iff_ne.2 h0
                                have HE : Hid (fault2 t b u c = fault t b) := by show fault2 t b u c = _; rw [fault2, if_neg h0]
                                clear h0
                                go_wp2
                                go_meet
                                case rel =>
                                  refine ⟨?_, ?_, ?_, ?_, ?_, ?_, ?_, ?_, ?_, ?_, ?_, ?_, ?_, ?_, ?_, ?_, ?_, ?_, ?_⟩
                                  · rw [HE.out]
                                  · repeat (first | exact B_24 | refine Below.setCell ?_ (by first | (simp; done) | (simp; omega) | omega) _ | refine Below.alloc ?_ (by first | omega | (simp; done) | (simp; omega)) _ | refine Below.drew ?_)
                                  · go_simp
                                  · go_simp
                                  · go_simp
                                  · go_simp
                                  · go_simp
                                  · go_simp
                                  · go_simp
                                  · go_simp
                                  · go_simp
                                  · go_simp
                                  · go_simp
                                  · go_simp
                                  · go_simp
                                  · go_simp
                                  · go_simp
                                  · go_simp
                                  · go_simp
                          case rest =>
                            as_aux_lemma =>
                              obtain ⟨w26, rfl⟩ : ∃ x : World, x = wc := ⟨_, rfl⟩
                              obtain ⟨rfl, B_26, G_26, a0_26, a1_26, af_26, ag_26, b0_26, b1_26, bf_26, bg_26, s0_26, s1_26, sf_26, sg_26, x0_26, x1_26, xf_26, xg_26⟩ := hcut
                              have az_26 : w.heap.size < w26.heap.size := World.block_lt_of_cell? _ _ a0_26
                              have bz_26 : w.heap.size + 1 < w26.heap.size := World.block_lt_of_cell? _ _ b0_26
                              have sz_26 : w.heap.size + 1 + 1 < w26.heap.size := World.block_lt_of_cell? _ _ s0_26
                              have xz_26 : w4.heap.size < w26.heap.size := World.block_lt_of_cell? _ _ x0_26
                              have gz_26 : 0 < w26.heap.size := World.block_lt_of_cell? _ _ G_26
                              clear B_24 G_24 gz_24 a0_24 a1_24 az_24 af_24 ag_24 b0_24 b1_24 bz_24 bf_24 bg_24 s0_24 s1_24 sz_24 sf_24 sg_24 x0_24 x1_24 xz_24 xf_24 xg_24
                              go_upto_if 147 with fail
                              go_cut [22] (fun s22 wc => s22 = .int .i64 (cmpV t b u c) ∧ Below w.heap.size w wc ∧ wc.cell? ⟨0, 0, none⟩ = some handleV ∧ wc.cell? ⟨w.heap.size, 0, none⟩ = some (.int .i64 (t)) ∧ wc.cell? ⟨w.heap.size, 1, none⟩ = some (.int .i64 (b)) ∧ wc.frozen? ⟨w.heap.size, 0, none⟩ = false ∧ wc.frozen? ⟨w.heap.size, 1, none⟩ = false ∧ wc.cell? ⟨w.heap.size + 1, 0, none⟩ = some (.int .i64 (u)) ∧ wc.cell? ⟨w.heap.size + 1, 1, none⟩ = some (.int .i64 (c)) ∧ wc.frozen? ⟨w.heap.size + 1, 0, none⟩ = false ∧ wc.frozen? ⟨w.heap.size + 1, 1, none⟩ = false ∧ wc.cell? ⟨w.heap.size + 1 + 1, 0, none⟩ = some (.int .i64 (byT t b n)) ∧ wc.cell? ⟨w.heap.size + 1 + 1, 1, none⟩ = some (.int .i64 (byB t b n)) ∧ wc.frozen? ⟨w.heap.size + 1 + 1, 0, none⟩ = false ∧ wc.frozen? ⟨w.heap.size + 1 + 1, 1, none⟩ = false ∧ wc.cell? ⟨w4.heap.size, 0, none⟩ = some (.int .i64 (byT t b n)) ∧ wc.cell? ⟨w4.heap.size, 1, none⟩ = some (.int .i64 (byB t b n)) ∧ wc.frozen? ⟨w4.heap.size, 0, none⟩ = false ∧ wc.frozen? ⟨w4.heap.size, 1, none⟩ = false)
                              case first =>
                                as_aux_lemma =>
                                  by_cases h0 : fault2 t b u c = 0
                                  · have qf : (fault2 t b u c == 0) = true := beq_iff_eq.2 h0
                                    obtain ⟨f1, f2⟩ := fault2_0 h0
                                    have F1 : Hid (fault t b = 0) := f1
                                    have F2 : Hid (fault u c = 0) := f2
                                    have HE : Hid (cmpV t b u c = cmpI (t * c) (u * b)) := by show cmpV t b u c = _; rw [cmpV, if_pos h0]
                                    clear h0 f1 f2
                                    go_wp2_with fail
                                    refine (Order_any t b u c _ F1.out F2.out).mono ?_
                                    rintro e w27 ⟨rfl, hb27⟩
                                    have B_27 : Below w.heap.size w w27 := by
                                      refine Below.trans ?_ (hb27.mono (by first | exact B_26.size | (have := B_26.size; simp; omega)))
                                      repeat (first | exact B_26 | refine Below.setCell ?_ (by first | (simp; done) | (simp; omega) | omega) _ | refine Below.alloc ?_ (by first | omega | (simp; done) | (simp; omega)) _ | refine Below.drew ?_)
                                    have G_27 : w27.cell? ⟨0, 0, none⟩ = some handleV := cell_later hb27 (by go_simp)
                                    have a0_27 : w27.cell? ⟨w.heap.size, 0, none⟩ = some (.int .i64 (t)) := cell_later hb27 (by go_simp)
                                    have a1_27 : w27.cell? ⟨w.heap.size, 1, none⟩ = some (.int .i64 (b)) := cell_later hb27 (by go_simp)
                                    have af_27 : w27.frozen? ⟨w.heap.size, 0, none⟩ = false := (hb27.frozen (p := ⟨w.heap.size, 0, none⟩) (by first | (simp; done) | (simp; omega) | omega)).trans (by go_simp)
                                    have ag_27 : w27.frozen? ⟨w.heap.size, 1, none⟩ = false := (hb27.frozen (p := ⟨w.heap.size, 1, none⟩) (by first | (simp; done) | (simp; omega) | omega)).trans (by go_simp)
                                    have az_27 : w.heap.size < w27.heap.size := World.block_lt_of_cell? _ _ a0_27
                                    have b0_27 : w27.cell? ⟨w.heap.size + 1, 0, none⟩ = some (.int .i64 (u)) := cell_later hb27 (by go_simp)
                                    have b1_27 : w27.cell? ⟨w.heap.size + 1, 1, none⟩ = some (.int .i64 (c)) := cell_later hb27 (by go_simp)
                                    have bf_27 : w27.frozen? ⟨w.heap.size + 1, 0, none⟩ = false := (hb27.frozen (p := ⟨w.heap.size + 1, 0, none⟩) (by first | (simp; done) | (simp; omega) | omega)).trans (by go_simp)
                                    have bg_27 : w27.frozen? ⟨w.heap.size + 1, 1, none⟩ = false := (hb27.frozen (p := ⟨w.heap.size + 1, 1, none⟩) (by first | (simp; done) | (simp; omega) | omega)).trans (by go_simp)
                                    have bz_27 : w.heap.size + 1 < w27.heap.size := World.block_lt_of_cell? _ _ b0_27
                                    have s0_27 : w27.cell? ⟨w.heap.size + 1 + 1, 0, none⟩ = some (.int .i64 (byT t b n)) := cell_later hb27 (by go_simp)
                                    have s1_27 : w27.cell? ⟨w.heap.size + 1 + 1, 1, none⟩ = some (.int .i64 (byB t b n)) := cell_later hb27 (by go_simp)
                                    have sf_27 : w27.frozen? ⟨w.heap.size + 1 + 1, 0, none⟩ = false := (hb27.frozen (p := ⟨w.heap.size + 1 + 1, 0, none⟩) (by first | (simp; done) | (simp; omega) | omega)).trans (by go_simp)
                                    have sg_27 : w27.frozen? ⟨w.heap.size + 1 + 1, 1, none⟩ = false := (hb27.frozen (p := ⟨w.heap.size + 1 + 1, 1, none⟩) (by first | (simp; done) | (simp; omega) | omega)).trans (by go_simp)
                                    have sz_27 : w.heap.size + 1 + 1 < w27.heap.size := World.block_lt_of_cell? _ _ s0_27
                                    have x0_27 : w27.cell? ⟨w4.heap.size, 0, none⟩ = some (.int .i64 (byT t b n)) := cell_later hb27 (by go_simp)
                                    have x1_27 : w27.cell? ⟨w4.heap.size, 1, none⟩ = some (.int .i64 (byB t b n)) := cell_later hb27 (by go_simp)
                                    have xf_27 : w27.frozen? ⟨w4.heap.size, 0, none⟩ = false := (hb27.frozen (p := ⟨w4.heap.size, 0, none⟩) (by first | (simp; done) | (simp; omega) | omega)).trans (by go_simp)
                                    have xg_27 : w27.frozen? ⟨w4.heap.size, 1, none⟩ = false := (hb27.frozen (p := ⟨w4.heap.size, 1, none⟩) (by first | (simp; done) | (simp; omega) | omega)).trans (by go_simp)
                                    have xz_27 : w4.heap.size < w27.heap.size := World.block_lt_of_cell? _ _ x0_27
                                    have gz_27 : 0 < w27.heap.size := World.block_lt_of_cell? _ _ G_27
                                    clear hb27
                                    go_wp2
                                    go_meet
                                    case rel =>
                                      refine ⟨?_, ?_, ?_, ?_, ?_, ?_, ?_, ?_, ?_, ?_, ?_, ?_, ?_, ?_, ?_, ?_, ?_, ?_, ?_⟩
                                      · rw [HE.out]
                                      · repeat (first | exact B_27 | refine Below.setCell ?_ (by first | (simp; done) | (simp; omega) | omega) _ | refine Below.alloc ?_ (by first | omega | (simp; done) | (simp; omega)) _ | refine Below.drew ?_)
                                      · go_simp
                                      · go_simp
                                      · go_simp
                                      · go_simp
                                      · go_simp
                                      · go_simp
                                      · go_simp
                                      · go_simp
                                      · go_simp
                                      · go_simp
                                      · go_simp
                                      · go_simp
                                      · go_simp
                                      · go_simp
                                      · go_simp
                                      · go_simp
                                      · go_simp
                                  · have qf : (fault2 t b u c == 0) = false := beq_eq_false_iff_ne.2 h0
                                    have HE : Hid (cmpV t b u c = 0) := by show cmpV t b u c = _; rw [cmpV, if_neg h0]
                                    clear h0
                                    go_wp2
                                    go_meet
                                    case rel =>
                                      refine ⟨?_, ?_, ?_, ?_, ?_, ?_, ?_, ?_, ?_, ?_, ?_, ?_, ?_, ?_, ?_, ?_, ?_, ?_, ?_⟩
                                      · rw [HE.out]
                                      · repeat (first | exact B_26 | refine Below.setCell ?_ (by first | (simp; done) | (simp; omega) | omega) _ | refine Below.alloc ?_ (by first | omega | (simp; done) | (simp; omega)) _ | refine Below.drew ?_)
                                      · go_simp
                                      · go_simp
                                      · go_simp
                                      · go_simp
                                      · go_simp
                                      · go_simp
                                      · go_simp
                                      · go_simp
                                      · go_simp
                                      · go_simp
                                      · go_simp
                                      · go_simp
                                      · go_simp
                                      · go_simp
                                      · go_simp
                                      · go_simp
                                      · go_simp
                              case rest =>
                                as_aux_lemma =>
                                  obtain ⟨w28, rfl⟩ : ∃ x : World, x = wc := ⟨_, rfl⟩
                                  obtain ⟨rfl, B_28, G_28, a0_28, a1_28, af_28, ag_28, b0_28, b1_28, bf_28, bg_28, s0_28, s1_28, sf_28, sg_28, x0_28, x1_28, xf_28, xg_28⟩ := hcut
                                  have az_28 : w.heap.size < w28.heap.size := World.block_lt_of_cell? _ _ a0_28
                                  have bz_28 : w.heap.size + 1 < w28.heap.size := World.block_lt_of_cell? _ _ b0_28
                                  have sz_28 : w.heap.size + 1 + 1 < w28.heap.size := World.block_lt_of_cell? _ _ s0_28
                                  have xz_28 : w4.heap.size < w28.heap.size := World.block_lt_of_cell? _ _ x0_28
                                  have gz_28 : 0 < w28.heap.size := World.block_lt_of_cell? _ _ G_28
                                  clear B_26 G_26 gz_26 a0_26 a1_26 az_26 af_26 ag_26 b0_26 b1_26 bz_26 bf_26 bg_26 s0_26 s1_26 sz_26 sf_26 sg_26 x0_26 x1_26 xz_26 xf_26 xg_26
                                  go_wp2_with fail
                                  refine (Compare_any t b u c _).mono ?_
                                  rintro e w29 ⟨rfl, hb29⟩
                                  have B_29 : Below w.heap.size w w29 := by
                                    refine Below.trans ?_ (hb29.mono (by first | exact B_28.size | (have := B_28.size; simp; omega)))
                                    repeat (first | exact B_28 | refine Below.setCell ?_ (by first | (simp; done) | (simp; omega) | omega) _ | refine Below.alloc ?_ (by first | omega | (simp; done) | (simp; omega)) _ | refine Below.drew ?_)
                                  have G_29 : w29.cell? ⟨0, 0, none⟩ = some handleV := cell_later hb29 (by go_simp)
                                  have a0_29 : w29.cell? ⟨w.heap.size, 0, none⟩ = some (.int .i64 (t)) := cell_later hb29 (by go_simp)
                                  have a1_29 : w29.cell? ⟨w.heap.size, 1, none⟩ = some (.int .i64 (b)) := cell_later hb29 (by go_simp)
                                  have af_29 : w29.frozen? ⟨w.heap.size, 0, none⟩ = false := (hb29.frozen (p := ⟨w.heap.size, 0, none⟩) (by first | (simp; done) | (simp; omega) | omega)).trans (by go_simp)
                                  have ag_29 : w29.frozen? ⟨w.heap.size, 1, none⟩ = false := (hb29.frozen (p := ⟨w.heap.size, 1, none⟩) (by first | (simp; done) | (simp; omega) | omega)).trans (by go_simp)
                                  have az_29 : w.heap.size < w29.heap.size := World.block_lt_of_cell? _ _ a0_29
                                  have b0_29 : w29.cell? ⟨w.heap.size + 1, 0, none⟩ = some (.int .i64 (u)) := cell_later hb29 (by go_simp)
                                  have b1_29 : w29.cell? ⟨w.heap.size + 1, 1, none⟩ = some (.int .i64 (c)) := cell_later hb29 (by go_simp)
                                  have bf_29 : w29.frozen? ⟨w.heap.size + 1, 0, none⟩ = false := (hb29.frozen (p := ⟨w.heap.size + 1, 0, none⟩) (by first | (simp; done) | (simp; omega) | omega)).trans (by go_simp)
                                  have bg_29 : w29.frozen? ⟨w.heap.size + 1, 1, none⟩ = false := (hb29.frozen (p := ⟨w.heap.size + 1, 1, none⟩) (by first | (simp; done) | (simp; omega) | omega)).trans (by go_simp)
                                  have bz_29 : w.heap.size + 1 < w29.heap.size := World.block_lt_of_cell? _ _ b0_29
                                  have s0_29 : w29.cell? ⟨w.heap.size + 1 + 1, 0, none⟩ = some (.int .i64 (byT t b n)) := cell_later hb29 (by go_simp)
                                  have s1_29 : w29.cell? ⟨w.heap.size + 1 + 1, 1, none⟩ = some (.int .i64 (byB t b n)) := cell_later hb29 (by go_simp)
                                  have sf_29 : w29.frozen? ⟨w.heap.size + 1 + 1, 0, none⟩ = false := (hb29.frozen (p := ⟨w.heap.size + 1 + 1, 0, none⟩) (by first | (simp; done) | (simp; omega) | omega)).trans (by go_simp)
                                  have sg_29 : w29.frozen? ⟨w.heap.size + 1 + 1, 1, none⟩ = false := (hb29.frozen (p := ⟨w.heap.size + 1 + 1, 1, none⟩) (by first | (simp; done) | (simp; omega) | omega)).trans (by go_simp)
                                  have sz_29 : w.heap.size + 1 + 1 < w29.heap.size := World.block_lt_of_cell? _ _ s0_29
                                  have x0_29 : w29.cell? ⟨w4.heap.size, 0, none⟩ = some (.int .i64 (byT t b n)) := cell_later hb29 (by go_simp)
                                  have x1_29 : w29.cell? ⟨w4.heap.size, 1, none⟩ = some (.int .i64 (byB t b n)) := cell_later hb29 (by go_simp)
                                  have xf_29 : w29.frozen? ⟨w4.heap.size, 0, none⟩ = false := (hb29.frozen (p := ⟨w4.heap.size, 0, none⟩) (by first | (simp; done) | (simp; omega) | omega)).trans (by go_simp)
                                  have xg_29 : w29.frozen? ⟨w4.heap.size, 1, none⟩ = false := (hb29.frozen (p := ⟨w4.heap.size, 1, none⟩) (by first | (simp; done) | (simp; omega) | omega)).trans (by go_simp)
                                  have xz_29 : w4.heap.size < w29.heap.size := World.block_lt_of_cell? _ _ x0_29
                                  have gz_29 : 0 < w29.heap.size := World.block_lt_of_cell? _ _ G_29
                                  clear hb29 B_28 G_28 gz_28 a0_28 a1_28 az_28 af_28 ag_28 b0_28 b1_28 bz_28 bf_28 bg_28 s0_28 s1_28 sz_28 sf_28 sg_28 x0_28 x1_28 xz_28 xf_28 xg_28
                                  go_wp2_with fail
                                  refine (Error_any (fault2 t b u c) (fault2 t b u c) _ (by go_simp)).mono ?_
                                  rintro e w30 ⟨rfl, hb30⟩
                                  rw [E1.out]
                                  have B_30 : Below w.heap.size w w30 := by
                                    refine Below.trans ?_ (hb30.mono (by first | exact B_29.size | (have := B_29.size; simp; omega)))
                                    repeat (first | exact B_29 | refine Below.setCell ?_ (by first | (simp; done) | (simp; omega) | omega) _ | refine Below.alloc ?_ (by first | omega | (simp; done) | (simp; omega)) _ | refine Below.drew ?_)
                                  have G_30 : w30.cell? ⟨0, 0, none⟩ = some handleV := cell_later hb30 (by go_simp)
                                  have a0_30 : w30.cell? ⟨w.heap.size, 0, none⟩ = some (.int .i64 (t)) := cell_later hb30 (by go_simp)
                                  have a1_30 : w30.cell? ⟨w.heap.size, 1, none⟩ = some (.int .i64 (b)) := cell_later hb30 (by go_simp)
                                  have af_30 : w30.frozen? ⟨w.heap.size, 0, none⟩ = false := (hb30.frozen (p := ⟨w.heap.size, 0, none⟩) (by first | (simp; done) | (simp; omega) | omega)).trans (by go_simp)
                                  have ag_30 : w30.frozen? ⟨w.heap.size, 1, none⟩ = false := (hb30.frozen (p := ⟨w.heap.size, 1, none⟩) (by first | (simp; done) | (simp; omega) | omega)).trans (by go_simp)
                                  have az_30 : w.heap.size < w30.heap.size := World.block_lt_of_cell? _ _ a0_30
                                  have b0_30 : w30.cell? ⟨w.heap.size + 1, 0, none⟩ = some (.int .i64 (u)) := cell_later hb30 (by go_simp)
                                  have b1_30 : w30.cell? ⟨w.heap.size + 1, 1, none⟩ = some (.int .i64 (c)) := cell_later hb30 (by go_simp)
                                  have bf_30 : w30.frozen? ⟨w.heap.size + 1, 0, none⟩ = false := (hb30.frozen (p := ⟨w.heap.size + 1, 0, none⟩) (by first | (simp; done) | (simp; omega) | omega)).trans (by go_simp)
                                  have bg_30 : w30.frozen? ⟨w.heap.size + 1, 1, none⟩ = false := (hb30.frozen (p := ⟨w.heap.size + 1, 1, none⟩) (by first | (simp; done) | (simp; omega) | omega)).trans (by go_simp)
                                  have bz_30 : w.heap.size + 1 < w30.heap.size := World.block_lt_of_cell? _ _ b0_30
                                  have s0_30 : w30.cell? ⟨w.heap.size + 1 + 1, 0, none⟩ = some (.int .i64 (byT t b n)) := cell_later hb30 (by go_simp)
                                  have s1_30 : w30.cell? ⟨w.heap.size + 1 + 1, 1, none⟩ = some (.int .i64 (byB t b n)) := cell_later hb30 (by go_simp)
                                  have sf_30 : w30.frozen? ⟨w.heap.size + 1 + 1, 0, none⟩ = false := (hb30.frozen (p := ⟨w.heap.size + 1 + 1, 0, none⟩) (by first | (simp; done) | (simp; omega) | omega)).trans (by go_simp)
                                  have sg_30 : w30.frozen? ⟨w.heap.size + 1 + 1, 1, none⟩ = false := (hb30.frozen (p := ⟨w.heap.size + 1 + 1, 1, none⟩) (by first | (simp; done) | (simp; omega) | omega)).trans (by go_simp)
                                  have sz_30 : w.heap.size + 1 + 1 < w30.heap.size := World.block_lt_of_cell? _ _ s0_30
                                  have x0_30 : w30.cell? ⟨w4.heap.size, 0, none⟩ = some (.int .i64 (byT t b n)) := cell_later hb30 (by go_simp)
                                  have x1_30 : w30.cell? ⟨w4.heap.size, 1, none⟩ = some (.int .i64 (byB t b n)) := cell_later hb30 (by go_simp)
                                  have xf_30 : w30.frozen? ⟨w4.heap.size, 0, none⟩ = false := (hb30.frozen (p := ⟨w4.heap.size, 0, none⟩) (by first | (simp; done) | (simp; omega) | omega)).trans (by go_simp)
                                  have xg_30 : w30.frozen? ⟨w4.heap.size, 1, none⟩ = false := (hb30.frozen (p := ⟨w4.heap.size, 1, none⟩) (by first | (simp; done) | (simp; omega) | omega)).trans (by go_simp)
                                  have xz_30 : w4.heap.size < w30.heap.size := World.block_lt_of_cell? _ _ x0_30
                                  have gz_30 : 0 < w30.heap.size := World.block_lt_of_cell? _ _ G_30
                                  clear hb30 B_29 G_29 gz_29 a0_29 a1_29 az_29 af_29 ag_29 b0_29 b1_29 bz_29 bf_29 bg_29 s0_29 s1_29 sz_29 sf_29 sg_29 x0_29 x1_29 xz_29 xf_29 xg_29
                                  go_upto_if 167 with fail
                                  go_cut [16] (fun s16 wc => s16 = .int .i64 (addE t b u c) ∧ Below w.heap.size w wc ∧ wc.cell? ⟨0, 0, none⟩ = some handleV ∧ wc.cell? ⟨w.heap.size, 0, none⟩ = some (.int .i64 (t)) ∧ wc.cell? ⟨w.heap.size, 1, none⟩ = some (.int .i64 (b)) ∧ wc.frozen? ⟨w.heap.size, 0, none⟩ = false ∧ wc.frozen? ⟨w.heap.size, 1, none⟩ = false ∧ wc.cell? ⟨w.heap.size + 1, 0, none⟩ = some (.int .i64 (u)) ∧ wc.cell? ⟨w.heap.size + 1, 1, none⟩ = some (.int .i64 (c)) ∧ wc.frozen? ⟨w.heap.size + 1, 0, none⟩ = false ∧ wc.frozen? ⟨w.heap.size + 1, 1, none⟩ = false ∧ wc.cell? ⟨w.heap.size + 1 + 1, 0, none⟩ = some (.int .i64 (addT t b u c)) ∧ wc.cell? ⟨w.heap.size + 1 + 1, 1, none⟩ = some (.int .i64 (addB t b u c)) ∧ wc.frozen? ⟨w.heap.size + 1 + 1, 0, none⟩ = false ∧ wc.frozen? ⟨w.heap.size + 1 + 1, 1, none⟩ = false ∧ wc.cell? ⟨w4.heap.size, 0, none⟩ = some (.int .i64 (byT t b n)) ∧ wc.cell? ⟨w4.heap.size, 1, none⟩ = some (.int .i64 (byB t b n)) ∧ wc.frozen? ⟨w4.heap.size, 0, none⟩ = false ∧ wc.frozen? ⟨w4.heap.size, 1, none⟩ = false)
                                  case first =>
                                    as_aux_lemma =>
                                      by_cases h0 : fault2 t b u c = 0
                                      · have qf : (fault2 t b u c == 0) = true := beq_iff_eq.2 h0
                                        obtain ⟨f1, f2⟩ := fault2_0 h0
                                        have F1 : Hid (fault t b = 0) := f1
                                        have F2 : Hid (fault u c = 0) := f2
                                        have HF : Hid (fault2 t b u c = 0) := h0
                                        have hbc : 1 ≤ b * c := Int.mul_pos (show 0 < b by have := (fault_0 f1).1; omega) (show 0 < c by have := (fault_0 f2).1; omega)
                                        cases hm : mayB (lowT (t * c + u * b) (b * c)) (lowB (t * c + u * b) (b * c)) with
                                        | true =>
                                          have HG : Hid (bigB (lowT (t * c + u * b) (b * c)) (lowB (t * c + u * b) (b * c)) = false) := by show bigB _ _ = false; rw [bigB_low hbc, hm]; rfl
                                          have HT : Hid (addT t b u c = lowT (t * c + u * b) (b * c)) := by show addT t b u c = _; rw [addT, if_pos h0, madeT, if_pos hm]
                                          have HB : Hid (addB t b u c = lowB (t * c + u * b) (b * c)) := by show addB t b u c = _; rw [addB, if_pos h0, madeB, if_pos hm]
                                          have HE : Hid (addE t b u c = 0) := by show addE t b u c = _; rw [addE, if_pos h0, madeE, if_pos hm]
                                          clear h0 hm f1 f2 hbc
                                          go_wp2_with fail
                                          refine (Sum_any t b u c _ F1.out F2.out).mono ?_
                                          rintro e w31 ⟨rfl, hb31⟩
                                          have B_31 : Below w.heap.size w w31 := by
                                            refine Below.trans ?_ (hb31.mono (by first | exact B_30.size | (have := B_30.size; simp; omega)))
                                            repeat (first | exact B_30 | refine Below.setCell ?_ (by first | (simp; done) | (simp; omega) | omega) _ | refine Below.alloc ?_ (by first | omega | (simp; done) | (simp; omega)) _ | refine Below.drew ?_)
                                          have G_31 : w31.cell? ⟨0, 0, none⟩ = some handleV := cell_later hb31 (by go_simp)
                                          have a0_31 : w31.cell? ⟨w.heap.size, 0, none⟩ = some (.int .i64 (t)) := cell_later hb31 (by go_simp)
                                          have a1_31 : w31.cell? ⟨w.heap.size, 1, none⟩ = some (.int .i64 (b)) := cell_later hb31 (by go_simp)
                                          have af_31 : w31.frozen? ⟨w.heap.size, 0, none⟩ = false := (hb31.frozen (p := ⟨w.heap.size, 0, none⟩) (by first | (simp; done) | (simp; omega) | omega)).trans (by go_simp)
                                          have ag_31 : w31.frozen? ⟨w.heap.size, 1, none⟩ = false := (hb31.frozen (p := ⟨w.heap.size, 1, none⟩) (by first | (simp; done) | (simp; omega) | omega)).trans (by go_simp)
                                          have az_31 : w.heap.size < w31.heap.size := World.block_lt_of_cell? _ _ a0_31
                                          have b0_31 : w31.cell? ⟨w.heap.size + 1, 0, none⟩ = some (.int .i64 (u)) := cell_later hb31 (by go_simp)
                                          have b1_31 : w31.cell? ⟨w.heap.size + 1, 1, none⟩ = some (.int .i64 (c)) := cell_later hb31 (by go_simp)
                                          have bf_31 : w31.frozen? ⟨w.heap.size + 1, 0, none⟩ = false := (hb31.frozen (p := ⟨w.heap.size + 1, 0, none⟩) (by first | (simp; done) | (simp; omega) | omega)).trans (by go_simp)
                                          have bg_31 : w31.frozen? ⟨w.heap.size + 1, 1, none⟩ = false := (hb31.frozen (p := ⟨w.heap.size + 1, 1, none⟩) (by first | (simp; done) | (simp; omega) | omega)).trans (by go_simp)
                                          have bz_31 : w.heap.size + 1 < w31.heap.size := World.block_lt_of_cell? _ _ b0_31
                                          have s0_31 : w31.cell? ⟨w.heap.size + 1 + 1, 0, none⟩ = some (.int .i64 (0)) := cell_later hb31 (by go_simp)
                                          have s1_31 : w31.cell? ⟨w.heap.size + 1 + 1, 1, none⟩ = some (.int .i64 (0)) := cell_later hb31 (by go_simp)
                                          have sf_31 : w31.frozen? ⟨w.heap.size + 1 + 1, 0, none⟩ = false := (hb31.frozen (p := ⟨w.heap.size + 1 + 1, 0, none⟩) (by first | (simp; done) | (simp; omega) | omega)).trans (by go_simp)
                                          have sg_31 : w31.frozen? ⟨w.heap.size + 1 + 1, 1, none⟩ = false := (hb31.frozen (p := ⟨w.heap.size + 1 + 1, 1, none⟩) (by first | (simp; done) | (simp; omega) | omega)).trans (by go_simp)
                                          have sz_31 : w.heap.size + 1 + 1 < w31.heap.size := World.block_lt_of_cell? _ _ s0_31
                                          have x0_31 : w31.cell? ⟨w4.heap.size, 0, none⟩ = some (.int .i64 (byT t b n)) := cell_later hb31 (by go_simp)
                                          have x1_31 : w31.cell? ⟨w4.heap.size, 1, none⟩ = some (.int .i64 (byB t b n)) := cell_later hb31 (by go_simp)
                                          have xf_31 : w31.frozen? ⟨w4.heap.size, 0, none⟩ = false := (hb31.frozen (p := ⟨w4.heap.size, 0, none⟩) (by first | (simp; done) | (simp; omega) | omega)).trans (by go_simp)
                                          have xg_31 : w31.frozen? ⟨w4.heap.size, 1, none⟩ = false := (hb31.frozen (p := ⟨w4.heap.size, 1, none⟩) (by first | (simp; done) | (simp; omega) | omega)).trans (by go_simp)
                                          have xz_31 : w4.heap.size < w31.heap.size := World.block_lt_of_cell? _ _ x0_31
                                          have gz_31 : 0 < w31.heap.size := World.block_lt_of_cell? _ _ G_31
                                          clear hb31
                                          go_wp2_with fail
                                          refine (Big_any (lowT (t * c + u * b) (b * c)) (lowB (t * c + u * b) (b * c)) _).mono ?_
                                          rintro e w32 ⟨rfl, hb32⟩
                                          rw [HG.out]
                                          have B_32 : Below w.heap.size w w32 := by
                                            refine Below.trans ?_ (hb32.mono (by first | exact B_31.size | (have := B_31.size; simp; omega)))
                                            repeat (first | exact B_31 | refine Below.setCell ?_ (by first | (simp; done) | (simp; omega) | omega) _ | refine Below.alloc ?_ (by first | omega | (simp; done) | (simp; omega)) _ | refine Below.drew ?_)
                                          have G_32 : w32.cell? ⟨0, 0, none⟩ = some handleV := cell_later hb32 (by go_simp)
                                          have a0_32 : w32.cell? ⟨w.heap.size, 0, none⟩ = some (.int .i64 (t)) := cell_later hb32 (by go_simp)
                                          have a1_32 : w32.cell? ⟨w.heap.size, 1, none⟩ = some (.int .i64 (b)) := cell_later hb32 (by go_simp)
                                          have af_32 : w32.frozen? ⟨w.heap.size, 0, none⟩ = false := (hb32.frozen (p := ⟨w.heap.size, 0, none⟩) (by first | (simp; done) | (simp; omega) | omega)).trans (by go_simp)
                                          have ag_32 : w32.frozen? ⟨w.heap.size, 1, none⟩ = false := (hb32.frozen (p := ⟨w.heap.size, 1, none⟩) (by first | (simp; done) | (simp; omega) | omega)).trans (by go_simp)
                                          have az_32 : w.heap.size < w32.heap.size := World.block_lt_of_cell? _ _ a0_32
                                          have b0_32 : w32.cell? ⟨w.heap.size + 1, 0, none⟩ = some (.int .i64 (u)) := cell_later hb32 (by go_simp)
                                          have b1_32 : w32.cell? ⟨w.heap.size + 1, 1, none⟩ = some (.int .i64 (c)) := cell_later hb32 (by go_simp)
                                          have bf_32 : w32.frozen? ⟨w.heap.size + 1, 0, none⟩ = false := (hb32.frozen (p := ⟨w.heap.size + 1, 0, none⟩) (by first | (simp; done) | (simp; omega) | omega)).trans (by go_simp)
                                          have bg_32 : w32.frozen? ⟨w.heap.size + 1, 1, none⟩ = false := (hb32.frozen (p := ⟨w.heap.size + 1, 1, none⟩) (by first | (simp; done) | (simp; omega) | omega)).trans (by go_simp)
                                          have bz_32 : w.heap.size + 1 < w32.heap.size := World.block_lt_of_cell? _ _ b0_32
                                          have s0_32 : w32.cell? ⟨w.heap.size + 1 + 1, 0, none⟩ = some (.int .i64 (lowT (t * c + u * b) (b * c))) := cell_later hb32 (by go_simp)
                                          have s1_32 : w32.cell? ⟨w.heap.size + 1 + 1, 1, none⟩ = some (.int .i64 (lowB (t * c + u * b) (b * c))) := cell_later hb32 (by go_simp)
                                          have sf_32 : w32.frozen? ⟨w.heap.size + 1 + 1, 0, none⟩ = false := (hb32.frozen (p := ⟨w.heap.size + 1 + 1, 0, none⟩) (by first | (simp; done) | (simp; omega) | omega)).trans (by go_simp)
                                          have sg_32 : w32.frozen? ⟨w.heap.size + 1 + 1, 1, none⟩ = false := (hb32.frozen (p := ⟨w.heap.size + 1 + 1, 1, none⟩) (by first | (simp; done) | (simp; omega) | omega)).trans (by go_simp)
                                          have sz_32 : w.heap.size + 1 + 1 < w32.heap.size := World.block_lt_of_cell? _ _ s0_32
                                          have x0_32 : w32.cell? ⟨w4.heap.size, 0, none⟩ = some (.int .i64 (byT t b n)) := cell_later hb32 (by go_simp)
                                          have x1_32 : w32.cell? ⟨w4.heap.size, 1, none⟩ = some (.int .i64 (byB t b n)) := cell_later hb32 (by go_simp)
                                          have xf_32 : w32.frozen? ⟨w4.heap.size, 0, none⟩ = false := (hb32.frozen (p := ⟨w4.heap.size, 0, none⟩) (by first | (simp; done) | (simp; omega) | omega)).trans (by go_simp)
                                          have xg_32 : w32.frozen? ⟨w4.heap.size, 1, none⟩ = false := (hb32.frozen (p := ⟨w4.heap.size, 1, none⟩) (by first | (simp; done) | (simp; omega) | omega)).trans (by go_simp)
                                          have xz_32 : w4.heap.size < w32.heap.size := World.block_lt_of_cell? _ _ x0_32
                                          have gz_32 : 0 < w32.heap.size := World.block_lt_of_cell? _ _ G_32
                                          clear hb32 B_31 G_31 gz_31 a0_31 a1_31 az_31 af_31 ag_31 b0_31 b1_31 bz_31 bf_31 bg_31 s0_31 s1_31 sz_31 sf_31 sg_31 x0_31 x1_31 xz_31 xf_31 xg_31
                                          go_wp2
                                          go_meet
                                          case rel =>
                                            refine ⟨?_, ?_, ?_, ?_, ?_, ?_, ?_, ?_, ?_, ?_, ?_, ?_, ?_, ?_, ?_, ?_, ?_, ?_, ?_⟩
                                            · rw [HE.out, HF.out]
                                            · repeat (first | exact B_32 | refine Below.setCell ?_ (by first | (simp; done) | (simp; omega) | omega) _ | refine Below.alloc ?_ (by first | omega | (simp; done) | (simp; omega)) _ | refine Below.drew ?_)
                                            · go_simp
                                            · go_simp
                                            · go_simp
                                            · go_simp
                                            · go_simp
                                            · go_simp
                                            · go_simp
                                            · go_simp
                                            · go_simp
                                            · rw [HT.out]; go_simp
                                            · rw [HB.out]; go_simp
                                            · go_simp
                                            · go_simp
                                            · go_simp
                                            · go_simp
                                            · go_simp
                                            · go_simp
                                        | false =>
                                          have hm' : ¬ mayB (lowT (t * c + u * b) (b * c)) (lowB (t * c + u * b) (b * c)) = true := by rw [hm]; decide
                                          have HG : Hid (bigB (lowT (t * c + u * b) (b * c)) (lowB (t * c + u * b) (b * c)) = true) := by show bigB _ _ = true; rw [bigB_low hbc, hm]; rfl
                                          have HT : Hid (addT t b u c = 0) := by show addT t b u c = _; rw [addT, if_pos h0, madeT, if_neg hm']
                                          have HB : Hid (addB t b u c = 0) := by show addB t b u c = _; rw [addB, if_pos h0, madeB, if_neg hm']
                                          have HE : Hid (addE t b u c = 4) := by show addE t b u c = _; rw [addE, if_pos h0, madeE, if_neg hm']
                                          clear h0 hm hm' f1 f2 hbc
                                          go_wp2_with fail
                                          refine (Sum_any t b u c _ F1.out F2.out).mono ?_
                                          rintro e w33 ⟨rfl, hb33⟩
                                          have B_33 : Below w.heap.size w w33 := by
                                            refine Below.trans ?_ (hb33.mono (by first | exact B_30.size | (have := B_30.size; simp; omega)))
                                            repeat (first | exact B_30 | refine Below.setCell ?_ (by first | (simp; done) | (simp; omega) | omega) _ | refine Below.alloc ?_ (by first | omega | (simp; done) | (simp; omega)) _ | refine Below.drew ?_)
                                          have G_33 : w33.cell? ⟨0, 0, none⟩ = some handleV := cell_later hb33 (by go_simp)
                                          have a0_33 : w33.cell? ⟨w.heap.size, 0, none⟩ = some (.int .i64 (t)) := cell_later hb33 (by go_simp)
                                          have a1_33 : w33.cell? ⟨w.heap.size, 1, none⟩ = some (.int .i64 (b)) := cell_later hb33 (by go_simp)
                                          have af_33 : w33.frozen? ⟨w.heap.size, 0, none⟩ = false := (hb33.frozen (p := ⟨w.heap.size, 0, none⟩) (by first | (simp; done) | (simp; omega) | omega)).trans (by go_simp)
                                          have ag_33 : w33.frozen? ⟨w.heap.size, 1, none⟩ = false := (hb33.frozen (p := ⟨w.heap.size, 1, none⟩) (by first | (simp; done) | (simp; omega) | omega)).trans (by go_simp)
                                          have az_33 : w.heap.size < w33.heap.size := World.block_lt_of_cell? _ _ a0_33
                                          have b0_33 : w33.cell? ⟨w.heap.size + 1, 0, none⟩ = some (.int .i64 (u)) := cell_later hb33 (by go_simp)
                                          have b1_33 : w33.cell? ⟨w.heap.size + 1, 1, none⟩ = some (.int .i64 (c)) := cell_later hb33 (by go_simp)
                                          have bf_33 : w33.frozen? ⟨w.heap.size + 1, 0, none⟩ = false := (hb33.frozen (p := ⟨w.heap.size + 1, 0, none⟩) (by first | (simp; done) | (simp; omega) | omega)).trans (by go_simp)
                                          have bg_33 : w33.frozen? ⟨w.heap.size + 1, 1, none⟩ = false := (hb33.frozen (p := ⟨w.heap.size + 1, 1, none⟩) (by first | (simp; done) | (simp; omega) | omega)).trans (by go_simp)
                                          have bz_33 : w.heap.size + 1 < w33.heap.size := World.block_lt_of_cell? _ _ b0_33
                                          have s0_33 : w33.cell? ⟨w.heap.size + 1 + 1, 0, none⟩ = some (.int .i64 (0)) := cell_later hb33 (by go_simp)
                                          have s1_33 : w33.cell? ⟨w.heap.size + 1 + 1, 1, none⟩ = some (.int .i64 (0)) := cell_later hb33 (by go_simp)
                                          have sf_33 : w33.frozen? ⟨w.heap.size + 1 + 1, 0, none⟩ = false := (hb33.frozen (p := ⟨w.heap.size + 1 + 1, 0, none⟩) (by first | (simp; done) | (simp; omega) | omega)).trans (by go_simp)
                                          have sg_33 : w33.frozen? ⟨w.heap.size + 1 + 1, 1, none⟩ = false := (hb33.frozen (p := ⟨w.heap.size + 1 + 1, 1, none⟩) (by first | (simp; done) | (simp; omega) | omega)).trans (by go_simp)
                                          have sz_33 : w.heap.size + 1 + 1 < w33.heap.size := World.block_lt_of_cell? _ _ s0_33
                                          have x0_33 : w33.cell? ⟨w4.heap.size, 0, none⟩ = some (.int .i64 (byT t b n)) := cell_later hb33 (by go_simp)
                                          have x1_33 : w33.cell? ⟨w4.heap.size, 1, none⟩ = some (.int .i64 (byB t b n)) := cell_later hb33 (by go_simp)
                                          have xf_33 : w33.frozen? ⟨w4.heap.size, 0, none⟩ = false := (hb33.frozen (p := ⟨w4.heap.size, 0, none⟩) (by first | (simp; done) | (simp; omega) | omega)).trans (by go_simp)
                                          have xg_33 : w33.frozen? ⟨w4.heap.size, 1, none⟩ = false := (hb33.frozen (p := ⟨w4.heap.size, 1, none⟩) (by first | (simp; done) | (simp; omega) | omega)).trans (by go_simp)
                                          have xz_33 : w4.heap.size < w33.heap.size := World.block_lt_of_cell? _ _ x0_33
                                          have gz_33 : 0 < w33.heap.size := World.block_lt_of_cell? _ _ G_33
                                          clear hb33
                                          go_wp2_with fail
                                          refine (Big_any (lowT (t * c + u * b) (b * c)) (lowB (t * c + u * b) (b * c)) _).mono ?_
                                          rintro e w34 ⟨rfl, hb34⟩
                                          rw [HG.out]
                                          have B_34 : Below w.heap.size w w34 := by
                                            refine Below.trans ?_ (hb34.mono (by first | exact B_33.size | (have := B_33.size; simp; omega)))
                                            repeat (first | exact B_33 | refine Below.setCell ?_ (by first | (simp; done) | (simp; omega) | omega) _ | refine Below.alloc ?_ (by first | omega | (simp; done) | (simp; omega)) _ | refine Below.drew ?_)
                                          have G_34 : w34.cell? ⟨0, 0, none⟩ = some handleV := cell_later hb34 (by go_simp)
                                          have a0_34 : w34.cell? ⟨w.heap.size, 0, none⟩ = some (.int .i64 (t)) := cell_later hb34 (by go_simp)
                                          have a1_34 : w34.cell? ⟨w.heap.size, 1, none⟩ = some (.int .i64 (b)) := cell_later hb34 (by go_simp)
                                          have af_34 : w34.frozen? ⟨w.heap.size, 0, none⟩ = false := (hb34.frozen (p := ⟨w.heap.size, 0, none⟩) (by first | (simp; done) | (simp; omega) | omega)).trans (by go_simp)
                                          have ag_34 : w34.frozen? ⟨w.heap.size, 1, none⟩ = false := (hb34.frozen (p := ⟨w.heap.size, 1, none⟩) (by first | (simp; done) | (simp; omega) | omega)).trans (by go_simp)
                                          have az_34 : w.heap.size < w34.heap.size := World.block_lt_of_cell? _ _ a0_34
                                          have b0_34 : w34.cell? ⟨w.heap.size + 1, 0, none⟩ = some (.int .i64 (u)) := cell_later hb34 (by go_simp)
                                          have b1_34 : w34.cell? ⟨w.heap.size + 1, 1, none⟩ = some (.int .i64 (c)) := cell_later hb34 (by go_simp)
                                          have bf_34 : w34.frozen? ⟨w.heap.size + 1, 0, none⟩ = false := (hb34.frozen (p := ⟨w.heap.size + 1, 0, none⟩) (by first | (simp; done) | (simp; omega) | omega)).trans (by go_simp)
                                          have bg_34 : w34.frozen? ⟨w.heap.size + 1, 1, none⟩ = false := (hb34.frozen (p := ⟨w.heap.size + 1, 1, none⟩) (by first | (simp; done) | (simp; omega) | omega)).trans (by go_simp)
                                          have bz_34 : w.heap.size + 1 < w34.heap.size := World.block_lt_of_cell? _ _ b0_34
                                          have s0_34 : w34.cell? ⟨w.heap.size + 1 + 1, 0, none⟩ = some (.int .i64 (lowT (t * c + u * b) (b * c))) := cell_later hb34 (by go_simp)
                                          have s1_34 : w34.cell? ⟨w.heap.size + 1 + 1, 1, none⟩ = some (.int .i64 (lowB (t * c + u * b) (b * c))) := cell_later hb34 (by go_simp)
                                          have sf_34 : w34.frozen? ⟨w.heap.size + 1 + 1, 0, none⟩ = false := (hb34.frozen (p := ⟨w.heap.size + 1 + 1, 0, none⟩) (by first | (simp; done) | (simp; omega) | omega)).trans (by go_simp)
                                          have sg_34 : w34.frozen? ⟨w.heap.size + 1 + 1, 1, none⟩ = false := (hb34.frozen (p := ⟨w.heap.size + 1 + 1, 1, none⟩) (by first | (simp; done) | (simp; omega) | omega)).trans (by go_simp)
                                          have sz_34 : w.heap.size + 1 + 1 < w34.heap.size := World.block_lt_of_cell? _ _ s0_34
                                          have x0_34 : w34.cell? ⟨w4.heap.size, 0, none⟩ = some (.int .i64 (byT t b n)) := cell_later hb34 (by go_simp)
                                          have x1_34 : w34.cell? ⟨w4.heap.size, 1, none⟩ = some (.int .i64 (byB t b n)) := cell_later hb34 (by go_simp)
                                          have xf_34 : w34.frozen? ⟨w4.heap.size, 0, none⟩ = false := (hb34.frozen (p := ⟨w4.heap.size, 0, none⟩) (by first | (simp; done) | (simp; omega) | omega)).trans (by go_simp)
                                          have xg_34 : w34.frozen? ⟨w4.heap.size, 1, none⟩ = false := (hb34.frozen (p := ⟨w4.heap.size, 1, none⟩) (by first | (simp; done) | (simp; omega) | omega)).trans (by go_simp)
                                          have xz_34 : w4.heap.size < w34.heap.size := World.block_lt_of_cell? _ _ x0_34
                                          have gz_34 : 0 < w34.heap.size := World.block_lt_of_cell? _ _ G_34
                                          clear hb34 B_33 G_33 gz_33 a0_33 a1_33 az_33 af_33 ag_33 b0_33 b1_33 bz_33 bf_33 bg_33 s0_33 s1_33 sz_33 sf_33 sg_33 x0_33 x1_33 xz_33 xf_33 xg_33
                                          go_wp2
                                          go_meet
                                          case rel =>
                                            refine ⟨?_, ?_, ?_, ?_, ?_, ?_, ?_, ?_, ?_, ?_, ?_, ?_, ?_, ?_, ?_, ?_, ?_, ?_, ?_⟩
                                            · rw [HE.out]
                                            · repeat (first | exact B_34 | refine Below.setCell ?_ (by first | (simp; done) | (simp; omega) | omega) _ | refine Below.alloc ?_ (by first | omega | (simp; done) | (simp; omega)) _ | refine Below.drew ?_)
                                            · go_simp
                                            · go_simp
                                            · go_simp
                                            · go_simp
                                            · go_simp
                                            · go_simp
                                            · go_simp
                                            · go_simp
                                            · go_simp
                                            · rw [HT.out]; go_simp
                                            · rw [HB.out]; go_simp
                                            · go_simp
                                            · go_simp
                                            · go_simp
                                            · go_simp
                                            · go_simp
                                            · go_simp
                                      · have qf : (fault2 t b u c == 0) = false := beq_eq_false_iff_ne.2 h0
                                        have HT : Hid (addT t b u c = 0) := by show addT t b u c = _; rw [addT, if_neg h0]
                                        have HB : Hid (addB t b u c = 0) := by show addB t b u c = _; rw [addB, if_neg h0]
                                        have HE : Hid (addE t b u c = fault2 t b u c) := by show addE t b u c = _; rw [addE, if_neg h0]
                                        clear h0
                                        go_wp2
                                        go_meet
                                        case rel =>
                                          refine ⟨?_, ?_, ?_, ?_, ?_, ?_, ?_, ?_, ?_, ?_, ?_, ?_, ?_, ?_, ?_, ?_, ?_, ?_, ?_⟩
                                          · rw [HE.out]
                                          · repeat (first | exact B_30 | refine Below.setCell ?_ (by first | (simp; done) | (simp; omega) | omega) _ | refine Below.alloc ?_ (by first | omega | (simp; done) | (simp; omega)) _ | refine Below.drew ?_)
                                          · go_simp
                                          · go_simp
                                          · go_simp
                                          · go_simp
                                          · go_simp
                                          · go_simp
                                          · go_simp
                                          · go_simp
                                          · go_simp
                                          · rw [HT.out]; go_simp
                                          · rw [HB.out]; go_simp
                                          · go_simp
                                          · go_simp
                                          · go_simp
                                          · go_simp
                                          · go_simp
                                          · go_simp
                                  case rest =>
                                    as_aux_lemma =>
                                      obtain ⟨w35, rfl⟩ : ∃ x : World, x = wc := ⟨_, rfl⟩
                                      obtain ⟨rfl, B_35, G_35, a0_35, a1_35, af_35, ag_35, b0_35, b1_35, bf_35, bg_35, s0_35, s1_35, sf_35, sg_35, x0_35, x1_35, xf_35, xg_35⟩ := hcut
                                      have az_35 : w.heap.size < w35.heap.size := World.block_lt_of_cell? _ _ a0_35
                                      have bz_35 : w.heap.size + 1 < w35.heap.size := World.block_lt_of_cell? _ _ b0_35
                                      have sz_35 : w.heap.size + 1 + 1 < w35.heap.size := World.block_lt_of_cell? _ _ s0_35
                                      have xz_35 : w4.heap.size < w35.heap.size := World.block_lt_of_cell? _ _ x0_35
                                      have gz_35 : 0 < w35.heap.size := World.block_lt_of_cell? _ _ G_35
                                      clear B_30 G_30 gz_30 a0_30 a1_30 az_30 af_30 ag_30 b0_30 b1_30 bz_30 bf_30 bg_30 s0_30 s1_30 sz_30 sf_30 sg_30 x0_30 x1_30 xz_30 xf_30 xg_30
                                      go_wp2_with fail
                                      refine (Add_any t b u c _).mono ?_
                                      rintro e w36 ⟨rfl, hb36⟩
                                      rw [pairV]
                                      have B_36 : Below w.heap.size w w36 := by
                                        refine Below.trans ?_ (hb36.mono (by first | exact B_35.size | (have := B_35.size; simp; omega)))
                                        repeat (first | exact B_35 | refine Below.setCell ?_ (by first | (simp; done) | (simp; omega) | omega) _ | refine Below.alloc ?_ (by first | omega | (simp; done) | (simp; omega)) _ | refine Below.drew ?_)
                                      have G_36 : w36.cell? ⟨0, 0, none⟩ = some handleV := cell_later hb36 (by go_simp)
                                      have a0_36 : w36.cell? ⟨w.heap.size, 0, none⟩ = some (.int .i64 (t)) := cell_later hb36 (by go_simp)
                                      have a1_36 : w36.cell? ⟨w.heap.size, 1, none⟩ = some (.int .i64 (b)) := cell_later hb36 (by go_simp)
                                      have af_36 : w36.frozen? ⟨w.heap.size, 0, none⟩ = false := (hb36.frozen (p := ⟨w.heap.size, 0, none⟩) (by first | (simp; done) | (simp; omega) | omega)).trans (by go_simp)
                                      have ag_36 : w36.frozen? ⟨w.heap.size, 1, none⟩ = false := (hb36.frozen (p := ⟨w.heap.size, 1, none⟩) (by first | (simp; done) | (simp; omega) | omega)).trans (by go_simp)
                                      have az_36 : w.heap.size < w36.heap.size := World.block_lt_of_cell? _ _ a0_36
                                      have b0_36 : w36.cell? ⟨w.heap.size + 1, 0, none⟩ = some (.int .i64 (u)) := cell_later hb36 (by go_simp)
                                      have b1_36 : w36.cell? ⟨w.heap.size + 1, 1, none⟩ = some (.int .i64 (c)) := cell_later hb36 (by go_simp)
                                      have bf_36 : w36.frozen? ⟨w.heap.size + 1, 0, none⟩ = false := (hb36.frozen (p := ⟨w.heap.size + 1, 0, none⟩) (by first | (simp; done) | (simp; omega) | omega)).trans (by go_simp)
                                      have bg_36 : w36.frozen? ⟨w.heap.size + 1, 1, none⟩ = false := (hb36.frozen (p := ⟨w.heap.size + 1, 1, none⟩) (by first | (simp; done) | (simp; omega) | omega)).trans (by go_simp)
                                      have bz_36 : w.heap.size + 1 < w36.heap.size := World.block_lt_of_cell? _ _ b0_36
                                      have s0_36 : w36.cell? ⟨w.heap.size + 1 + 1, 0, none⟩ = some (.int .i64 (addT t b u c)) := cell_later hb36 (by go_simp)
                                      have s1_36 : w36.cell? ⟨w.heap.size + 1 + 1, 1, none⟩ = some (.int .i64 (addB t b u c)) := cell_later hb36 (by go_simp)
                                      have sf_36 : w36.frozen? ⟨w.heap.size + 1 + 1, 0, none⟩ = false := (hb36.frozen (p := ⟨w.heap.size + 1 + 1, 0, none⟩) (by first | (simp; done) | (simp; omega) | omega)).trans (by go_simp)
                                      have sg_36 : w36.frozen? ⟨w.heap.size + 1 + 1, 1, none⟩ = false := (hb36.frozen (p := ⟨w.heap.size + 1 + 1, 1, none⟩) (by first | (simp; done) | (simp; omega) | omega)).trans (by go_simp)
                                      have sz_36 : w.heap.size + 1 + 1 < w36.heap.size := World.block_lt_of_cell? _ _ s0_36
                                      have x0_36 : w36.cell? ⟨w4.heap.size, 0, none⟩ = some (.int .i64 (byT t b n)) := cell_later hb36 (by go_simp)
                                      have x1_36 : w36.cell? ⟨w4.heap.size, 1, none⟩ = some (.int .i64 (byB t b n)) := cell_later hb36 (by go_simp)
                                      have xf_36 : w36.frozen? ⟨w4.heap.size, 0, none⟩ = false := (hb36.frozen (p := ⟨w4.heap.size, 0, none⟩) (by first | (simp; done) | (simp; omega) | omega)).trans (by go_simp)
                                      have xg_36 : w36.frozen? ⟨w4.heap.size, 1, none⟩ = false := (hb36.frozen (p := ⟨w4.heap.size, 1, none⟩) (by first | (simp; done) | (simp; omega) | omega)).trans (by go_simp)
                                      have xz_36 : w4.heap.size < w36.heap.size := World.block_lt_of_cell? _ _ x0_36
                                      have gz_36 : 0 < w36.heap.size := World.block_lt_of_cell? _ _ G_36
                                      clear hb36 B_35 G_35 gz_35 a0_35 a1_35 az_35 af_35 ag_35 b0_35 b1_35 bz_35 bf_35 bg_35 s0_35 s1_35 sz_35 sf_35 sg_35 x0_35 x1_35 xz_35 xf_35 xg_35
                                      go_wp2_with fail
                                      refine (Error_any (addE t b u c) (addE t b u c) _ (by go_simp)).mono ?_
                                      rintro e w37 ⟨rfl, hb37⟩
                                      rw [E1.out]
                                      have B_37 : Below w.heap.size w w37 := by
                                        refine Below.trans ?_ (hb37.mono (by first | exact B_36.size | (have := B_36.size; simp; omega)))
                                        repeat (first | exact B_36 | refine Below.setCell ?_ (by first | (simp; done) | (simp; omega) | omega) _ | refine Below.alloc ?_ (by first | omega | (simp; done) | (simp; omega)) _ | refine Below.drew ?_)
                                      have G_37 : w37.cell? ⟨0, 0, none⟩ = some handleV := cell_later hb37 (by go_simp)
                                      have a0_37 : w37.cell? ⟨w.heap.size, 0, none⟩ = some (.int .i64 (t)) := cell_later hb37 (by go_simp)
                                      have a1_37 : w37.cell? ⟨w.heap.size, 1, none⟩ = some (.int .i64 (b)) := cell_later hb37 (by go_simp)
                                      have af_37 : w37.frozen? ⟨w.heap.size, 0, none⟩ = false := (hb37.frozen (p := ⟨w.heap.size, 0, none⟩) (by first | (simp; done) | (simp; omega) | omega)).trans (by go_simp)
                                      have ag_37 : w37.frozen? ⟨w.heap.size, 1, none⟩ = false := (hb37.frozen (p := ⟨w.heap.size, 1, none⟩) (by first | (simp; done) | (simp; omega) | omega)).trans (by go_simp)
                                      have az_37 : w.heap.size < w37.heap.size := World.block_lt_of_cell? _ _ a0_37
                                      have b0_37 : w37.cell? ⟨w.heap.size + 1, 0, none⟩ = some (.int .i64 (u)) := cell_later hb37 (by go_simp)
                                      have b1_37 : w37.cell? ⟨w.heap.size + 1, 1, none⟩ = some (.int .i64 (c)) := cell_later hb37 (by go_simp)
                                      have bf_37 : w37.frozen? ⟨w.heap.size + 1, 0, none⟩ = false := (hb37.frozen (p := ⟨w.heap.size + 1, 0, none⟩) (by first | (simp; done) | (simp; omega) | omega)).trans (by go_simp)
                                      have bg_37 : w37.frozen? ⟨w.heap.size + 1, 1, none⟩ = false := (hb37.frozen (p := ⟨w.heap.size + 1, 1, none⟩) (by first | (simp; done) | (simp; omega) | omega)).trans (by go_simp)
                                      have bz_37 : w.heap.size + 1 < w37.heap.size := World.block_lt_of_cell? _ _ b0_37
                                      have s0_37 : w37.cell? ⟨w.heap.size + 1 + 1, 0, none⟩ = some (.int .i64 (addT t b u c)) := cell_later hb37 (by go_simp)
                                      have s1_37 : w37.cell? ⟨w.heap.size + 1 + 1, 1, none⟩ = some (.int .i64 (addB t b u c)) := cell_later hb37 (by go_simp)
                                      have sf_37 : w37.frozen? ⟨w.heap.size + 1 + 1, 0, none⟩ = false := (hb37.frozen (p := ⟨w.heap.size + 1 + 1, 0, none⟩) (by first | (simp; done) | (simp; omega) | omega)).trans (by go_simp)
                                      have sg_37 : w37.frozen? ⟨w.heap.size + 1 + 1, 1, none⟩ = false := (hb37.frozen (p := ⟨w.heap.size + 1 + 1, 1, none⟩) (by first | (simp; done) | (simp; omega) | omega)).trans (by go_simp)
                                      have sz_37 : w.heap.size + 1 + 1 < w37.heap.size := World.block_lt_of_cell? _ _ s0_37
                                      have x0_37 : w37.cell? ⟨w4.heap.size, 0, none⟩ = some (.int .i64 (addT t b u c)) := cell_later hb37 (by go_simp)
                                      have x1_37 : w37.cell? ⟨w4.heap.size, 1, none⟩ = some (.int .i64 (addB t b u c)) := cell_later hb37 (by go_simp)
                                      have xf_37 : w37.frozen? ⟨w4.heap.size, 0, none⟩ = false := (hb37.frozen (p := ⟨w4.heap.size, 0, none⟩) (by first | (simp; done) | (simp; omega) | omega)).trans (by go_simp)
                                      have xg_37 : w37.frozen? ⟨w4.heap.size, 1, none⟩ = false := (hb37.frozen (p := ⟨w4.heap.size, 1, none⟩) (by first | (simp; done) | (simp; omega) | omega)).trans (by go_simp)
                                      have xz_37 : w4.heap.size < w37.heap.size := World.block_lt_of_cell? _ _ x0_37
                                      have gz_37 : 0 < w37.heap.size := World.block_lt_of_cell? _ _ G_37
                                      clear hb37 B_36 G_36 gz_36 a0_36 a1_36 az_36 af_36 ag_36 b0_36 b1_36 bz_36 bf_36 bg_36 s0_36 s1_36 sz_36 sf_36 sg_36 x0_36 x1_36 xz_36 xf_36 xg_36
                                      go_wp2
                                      go_ret
                                      refine ⟨rfl, ?_⟩
                                      repeat (first | exact B_37 | refine Below.setCell ?_ (by first | (simp; done) | (simp; omega) | omega) _ | refine Below.alloc ?_ (by first | omega | (simp; done) | (simp; omega)) _ | refine Below.drew ?_)
end FracTellsLaw
end Go.Proofs.YtkkmmmmipjnljaaDoor
