/- Plain facts on what Check tells: with another time, metadata, events, kind. -/
import Derived.Test.YtcihnfgfficmlaaPure7
namespace Go.Proofs.Ytcihnfgfficmlaa
open Go.RowKit Go.Lib

theorem check_iff (c : CmdD) : checkC c = 0 ↔ (¬ (c.kind < 1 ∨ 5 < c.kind ∨ c.time < 0 ∨ great < c.time)) ∧ (¬ (c.kind ≤ 3 ∧ strm c.stream.data.toList = false)) ∧ (¬ (c.kind = 1 ∧ c.evs = [])) ∧ (¬ (c.kind = 1 ∧ 8 < c.evs.length)) ∧
    (¬ (c.kind = 1 ∧ c.evs.all validE = false)) ∧ (¬ ((c.kind = 1 ∨ c.kind = 3) ∧ expOk c.exp = false)) ∧ (¬ (c.kind = 2 ∧ validM c.cnt c.age c.bef = false)) ∧
    (¬ (c.kind ≠ 1 ∧ c.evs ≠ [] ∨ c.kind ≠ 2 ∧ (c.cnt ≠ 0 ∨ c.age ≠ 0 ∨ c.bef ≠ 0) ∨ c.kind ≠ 1 ∧ c.kind ≠ 3 ∧ c.exp ≠ 0 ∨ 3 < c.kind ∧ c.stream.size ≠ 0)) := by
  unfold checkC
  constructor
  · intro h
    split at h
    · cases h
    split at h
    · cases h
    split at h
    · cases h
    split at h
    · cases h
    split at h
    · cases h
    split at h
    · cases h
    split at h
    · cases h
    split at h
    · cases h
    exact ⟨by assumption, by assumption, by assumption, by assumption, by assumption, by assumption, by assumption, by assumption⟩
  · rintro ⟨h1, h2, h3, h4, h5, h6, h7, h8⟩
    rw [if_neg h1, if_neg h2, if_neg h3, if_neg h4, if_neg h5, if_neg h6, if_neg h7, if_neg h8]

theorem parts_time {k t e p q r : Int} {s : ByteArray} {l : List EvD} (h : checkC ⟨k, t, s, e, l, p, q, r⟩ = 0) (u : Int) : (checkC ⟨k, u, s, e, l, p, q, r⟩ == 0) = (decide (0 ≤ u) && decide (u ≤ 1099511627776)) := by
  obtain ⟨h1, h2, h3, h4, h5, h6, h7, h8⟩ := (check_iff _).1 h
  rw [Bool.eq_iff_iff, beq_iff_eq, check_iff, Bool.and_eq_true, decide_eq_true_eq, decide_eq_true_eq]
  simp only [] at h1 h2 h3 h4 h5 h6 h7 h8 ⊢
  unfold great at *
  constructor
  · rintro ⟨g1, _⟩; omega
  · intro g; exact ⟨by omega, h2, h3, h4, h5, h6, h7, h8⟩
theorem parts_bef {k t e p q r : Int} {s : ByteArray} {l : List EvD} (h : checkC ⟨k, t, s, e, l, p, q, r⟩ = 0) : (checkC ⟨k, t, s, e, l, p, q, 1⟩ == 0) = (k == 2) := by
  obtain ⟨h1, h2, h3, h4, h5, h6, h7, h8⟩ := (check_iff _).1 h
  rw [Bool.eq_iff_iff, beq_iff_eq, check_iff, beq_iff_eq]
  simp only [] at h1 h2 h3 h4 h5 h6 h7 h8 ⊢
  constructor
  · rintro ⟨_, _, _, _, _, _, _, g⟩
    by_cases hk : k = 2
    · exact hk
    · exact absurd (.inr (.inl ⟨hk, .inr (.inr (by decide))⟩)) g
  · intro hk
    refine ⟨h1, h2, h3, h4, h5, h6, ?_, ?_⟩
    · rintro ⟨_, hv⟩
      have hv2 : validM p q r = true := by cases hv3 : validM p q r with | true => rfl | false => exact absurd ⟨hk, hv3⟩ h7
      unfold validM at hv hv2
      simp only [Bool.and_eq_true] at hv2
      rw [hv2.1.1, hv2.1.2] at hv
      revert hv
      decide
    · rintro (g | g | g | g)
      · exact h8 (.inl g)
      · exact g.1 hk
      · exact h8 (.inr (.inr (.inl g)))
      · exact h8 (.inr (.inr (.inr g)))
def tEvD : EvD := ⟨1, ⟨#[116]⟩, ⟨#[]⟩, 0⟩
theorem parts_evs {k t e p q r : Int} {s : ByteArray} {l : List EvD} (h : checkC ⟨k, t, s, e, l, p, q, r⟩ = 0) : (checkC ⟨k, t, s, e, [tEvD], p, q, r⟩ == 0) = (k == 1) := by
  obtain ⟨h1, h2, h3, h4, h5, h6, h7, h8⟩ := (check_iff _).1 h
  rw [Bool.eq_iff_iff, beq_iff_eq, check_iff, beq_iff_eq]
  simp only [] at h1 h2 h3 h4 h5 h6 h7 h8 ⊢
  constructor
  · rintro ⟨_, _, _, _, _, _, _, g⟩
    by_cases hk : k = 1
    · exact hk
    · exact absurd (.inl ⟨hk, by simp⟩) g
  · intro hk
    refine ⟨h1, h2, by simp, by simp, ?_, h6, h7, ?_⟩
    · rintro ⟨_, hv⟩
      revert hv
      decide +kernel
    · rintro (g | g | g | g)
      · exact g.1 hk
      · exact h8 (.inr (.inl g))
      · exact h8 (.inr (.inr (.inl g)))
      · exact h8 (.inr (.inr (.inr g)))
theorem parts_kind (t e p q r : Int) (s : ByteArray) (l : List EvD) : checkC ⟨9, t, s, e, l, p, q, r⟩ = 1 := by
  unfold checkC
  rw [if_pos (.inr (.inl (by simp only []; omega)))]
end Go.Proofs.Ytcihnfgfficmlaa
