/- Contracts of the functions that PKE comes to. -/
import Derived.Test.YtpiplaicnbapbaaPKC
set_option maxRecDepth 100000
set_option maxHeartbeats 2000000
set_option linter.unusedVariables false
set_option linter.unusedSectionVars false
set_option linter.unusedSimpArgs false
namespace Go.Proofs.Ytpiplaicnbapbaa
open Go.Rx Go.RowKit
instance (n : Int) (x : Q4) : Decidable (QIn n x) := by unfold QIn; infer_instance
theorem step_iff' {R : List Q4} {c e : List Int} : (∃ i, step R c i = some e) ↔ ∃ r ∈ R, Allowed c r ∧ e = after c r := by
  constructor
  · rintro ⟨i, h⟩
    unfold step at h
    split at h
    · split at h
      · cases h
        exact ⟨_, List.getElem_mem _, by assumption, rfl⟩
      · cases h
    · cases h
  · rintro ⟨r, hr, ha, rfl⟩
    obtain ⟨i, hi, rfl⟩ := List.getElem_of_mem hr
    refine ⟨i, ?_⟩
    unfold step
    rw [dif_pos ⟨by omega, by omega⟩]
    simp only [Int.toNat_natCast]
    rw [if_pos ha]
theorem dec_of {R : List Q4} {n : Nat} {out : List Int} {on : Int} (hR : ∀ x ∈ R, QIn n x) (Inv Good : List Int → Prop) (μ : List Int → Nat)
    (keep : ∀ c r, CrOk n c → Inv c → r ∈ R → Allowed c r → Inv (after c r))
    (stay : ∀ c r, CrOk n c → Inv c → Good c → r ∈ R → Allowed c r → Good (after c r))
    (all : ∀ c, CrOk n c → Inv c → Good c → AllOut out on c)
    (prog : ∀ c, CrOk n c → Inv c → ¬ Good c → ∃ r ∈ R, Allowed c r ∧ μ (after c r) < μ c)
    {c : List Int} (hc : CrOk n c) (h : Inv c) : DeciC R out on c := by
  have inv : ∀ d e, CrOk n d → Inv d → Rs R d e → CrOk n e ∧ Inv e := by
    intro d e hd hi hs
    induction hs with
    | refl => exact ⟨hd, hi⟩
    | tail h1 h2 ih =>
      obtain ⟨r, hr, ha, rfl⟩ := step_iff'.1 ⟨_, h2⟩
      exact ⟨ih.1.after (hR r hr) ha, keep _ r ih.1 ih.2 hr ha⟩
  have good : ∀ d e, CrOk n d → Inv d → Good d → Rs R d e → Good e := by
    intro d e hd hi hg hs
    induction hs with
    | refl => exact hg
    | tail h1 h2 ih =>
      have hi2 := inv _ _ hd hi h1
      obtain ⟨r, hr, ha, rfl⟩ := step_iff'.1 ⟨_, h2⟩
      exact stay _ r hi2.1 hi2.2 ih hr ha
  have reach : ∀ k d, μ d = k → CrOk n d → Inv d → ∃ e, Rs R d e ∧ Good e := by
    intro k
    induction k using Nat.strongRecOn with
    | _ k ih =>
      intro d hk hd hi
      by_cases hg : Good d
      · exact ⟨d, .refl _, hg⟩
      · obtain ⟨r, hr, ha, hm⟩ := prog d hd hi hg
        obtain ⟨e, h1, h2⟩ := ih (μ (after d r)) (by omega) (after d r) rfl (hd.after (hR r hr) ha) (keep d r hd hi hr ha)
        obtain ⟨i, hi'⟩ := step_iff'.2 ⟨r, hr, ha, rfl⟩
        exact ⟨e, .head hi' h1, h2⟩
  intro d hd
  obtain ⟨hd1, hd2⟩ := inv _ _ hc h hd
  obtain ⟨e, h1, h2⟩ := reach _ d rfl hd1 hd2
  refine ⟨e, h1, fun f hf => ?_⟩
  obtain ⟨he1, he2⟩ := inv _ _ hd1 hd2 h1
  obtain ⟨hf1, hf2⟩ := inv _ _ he1 he2 hf
  exact all f hf1 hf2 (good e f he1 he2 h2 hf)
theorem sum3 {c : List Int} (h : c.length = 3) : c.sum = gl c 0 + gl c 1 + gl c 2 := by
  match c, h with
  | [a, b, d], _ => show a + (b + (d + 0)) = a + b + d; omega
theorem sum4 {c : List Int} (h : c.length = 4) : c.sum = gl c 0 + gl c 1 + gl c 2 + gl c 3 := by
  match c, h with
  | [a, b, d, e], _ => show a + (b + (d + (e + 0))) = a + b + d + e; omega
theorem sum5 {c : List Int} (h : c.length = 5) : c.sum = gl c 0 + gl c 1 + gl c 2 + gl c 3 + gl c 4 := by
  match c, h with
  | [a, b, d, e, f], _ => show a + (b + (d + (e + (f + 0)))) = a + b + d + e + f; omega
theorem sum2 {c : List Int} (h : c.length = 2) : c.sum = gl c 0 + gl c 1 := by
  match c, h with
  | [a, b], _ => show a + (b + 0) = a + b; omega
theorem nz3 {c : List Int} (h : CrOk 3 c) : 0 ≤ gl c 0 ∧ 0 ≤ gl c 1 ∧ 0 ≤ gl c 2 := ⟨h.nn 0, h.nn 1, h.nn 2⟩
theorem nz4 {c : List Int} (h : CrOk 4 c) : 0 ≤ gl c 0 ∧ 0 ≤ gl c 1 ∧ 0 ≤ gl c 2 ∧ 0 ≤ gl c 3 := ⟨h.nn 0, h.nn 1, h.nn 2, h.nn 3⟩
theorem nz5 {c : List Int} (h : CrOk 5 c) : 0 ≤ gl c 0 ∧ 0 ≤ gl c 1 ∧ 0 ≤ gl c 2 ∧ 0 ≤ gl c 3 ∧ 0 ≤ gl c 4 := ⟨h.nn 0, h.nn 1, h.nn 2, h.nn 3, h.nn 4⟩
theorem nn2 {c : List Int} (h : CrOk 2 c) : 0 ≤ gl c 0 ∧ 0 ≤ gl c 1 ∧ 1 ≤ gl c 0 + gl c 1 ∧ gl c 0 + gl c 1 ≤ 9 := ⟨h.nn 0, h.nn 1, by have := h.s1; rw [sum2 h.len] at this; exact this, by have := h.s9; rw [sum2 h.len] at this; exact this⟩
theorem nn3 {c : List Int} (h : CrOk 3 c) : 0 ≤ gl c 0 ∧ 0 ≤ gl c 1 ∧ 0 ≤ gl c 2 ∧ 1 ≤ gl c 0 + gl c 1 + gl c 2 ∧ gl c 0 + gl c 1 + gl c 2 ≤ 9 := ⟨h.nn 0, h.nn 1, h.nn 2, by have := h.s1; rw [sum3 h.len] at this; exact this, by have := h.s9; rw [sum3 h.len] at this; exact this⟩
theorem nn4 {c : List Int} (h : CrOk 4 c) : 0 ≤ gl c 0 ∧ 0 ≤ gl c 1 ∧ 0 ≤ gl c 2 ∧ 0 ≤ gl c 3 ∧ 1 ≤ gl c 0 + gl c 1 + gl c 2 + gl c 3 ∧ gl c 0 + gl c 1 + gl c 2 + gl c 3 ≤ 9 := ⟨h.nn 0, h.nn 1, h.nn 2, h.nn 3, by have := h.s1; rw [sum4 h.len] at this; exact this, by have := h.s9; rw [sum4 h.len] at this; exact this⟩
theorem nn5 {c : List Int} (h : CrOk 5 c) : 0 ≤ gl c 0 ∧ 0 ≤ gl c 1 ∧ 0 ≤ gl c 2 ∧ 0 ≤ gl c 3 ∧ 0 ≤ gl c 4 ∧ 1 ≤ gl c 0 + gl c 1 + gl c 2 + gl c 3 + gl c 4 ∧ gl c 0 + gl c 1 + gl c 2 + gl c 3 + gl c 4 ≤ 9 := ⟨h.nn 0, h.nn 1, h.nn 2, h.nn 3, h.nn 4, by have := h.s1; rw [sum5 h.len] at this; exact this, by have := h.s9; rw [sum5 h.len] at this; exact this⟩
theorem nz2 {c : List Int} (h : CrOk 2 c) : 0 ≤ gl c 0 ∧ 0 ≤ gl c 1 := ⟨h.nn 0, h.nn 1⟩
theorem f2_0111 {c : List Int} (h : c.length = 2) : gl (after c (⟨0, 1, 1, 1⟩ : Q4)) 0 = gl c 0 - 1 - 0 + 0 + 0 ∧ gl (after c (⟨0, 1, 1, 1⟩ : Q4)) 1 = gl c 1 - 0 - 1 + 1 + 1 := ⟨gl_after h (by decide) 0, gl_after h (by decide) 1⟩
theorem f2_1111 {c : List Int} (h : c.length = 2) : gl (after c (⟨1, 1, 1, 1⟩ : Q4)) 0 = gl c 0 - 0 - 0 + 0 + 0 ∧ gl (after c (⟨1, 1, 1, 1⟩ : Q4)) 1 = gl c 1 - 1 - 1 + 1 + 1 := ⟨gl_after h (by decide) 0, gl_after h (by decide) 1⟩
theorem at1_yes  {c : List Int} (hc : CrOk 2 c) (hi : 1 ≤ 1 * gl c 1) : DeciC [⟨0, 1, 1, 1⟩, ⟨1, 1, 1, 1⟩] [0, 1] 1 c := by
  refine dec_of (n := 2) (by decide) (fun c => 1 ≤ 1 * gl c 1) (fun c => gl c 0 = 0) (fun c => (gl c 0 + (0)).toNat) ?_ ?_ ?_ ?_ hc hi
  · intro c r hc hi hr ha
    have hn := nz2 hc
    simp only [List.mem_cons, List.not_mem_nil, or_false] at hr
    rcases hr with rfl | rfl
    · have e := f2_0111 hc.len; have ha : 0 < gl c 0 ∧ 0 < gl c 1 := ha; omega
    · have e := f2_1111 hc.len; have ha : 1 < gl c 1 := ha; omega
  · intro c r hc hi hg hr ha
    have hn := nz2 hc
    simp only [List.mem_cons, List.not_mem_nil, or_false] at hr
    rcases hr with rfl | rfl
    · have e := f2_0111 hc.len; have ha : 0 < gl c 0 ∧ 0 < gl c 1 := ha; omega
    · have e := f2_1111 hc.len; have ha : 1 < gl c 1 := ha; omega
  · intro c hc hi hg s hs0 hp
    have hn := nn2 hc
    have hsl : s < 2 := hs0
    have : s = 0 ∨ s = 1 := by omega
    rcases this with rfl | rfl
    · first | (show (0 : Int) = 1; omega) | omega
    · first | (show (1 : Int) = 1; omega) | omega
  · intro c hc hi hg
    have hn := nn2 hc
    by_cases h0 : 0 < gl c 1 ∧ 0 < gl c 0
    · refine ⟨(⟨0, 1, 1, 1⟩ : Q4), by simp, (by show 0 < gl c 0 ∧ 0 < gl c 1; omega), ?_⟩
      have e := f2_0111 hc.len
      try dsimp only
      omega
    exfalso
    omega
theorem f3_0222 {c : List Int} (h : c.length = 3) : gl (after c (⟨0, 2, 2, 2⟩ : Q4)) 0 = gl c 0 - 1 - 0 + 0 + 0 ∧ gl (after c (⟨0, 2, 2, 2⟩ : Q4)) 1 = gl c 1 - 0 - 0 + 0 + 0 ∧ gl (after c (⟨0, 2, 2, 2⟩ : Q4)) 2 = gl c 2 - 0 - 1 + 1 + 1 := ⟨gl_after h (by decide) 0, gl_after h (by decide) 1, gl_after h (by decide) 2⟩
theorem f3_1122 {c : List Int} (h : c.length = 3) : gl (after c (⟨1, 1, 2, 2⟩ : Q4)) 0 = gl c 0 - 0 - 0 + 0 + 0 ∧ gl (after c (⟨1, 1, 2, 2⟩ : Q4)) 1 = gl c 1 - 1 - 1 + 0 + 0 ∧ gl (after c (⟨1, 1, 2, 2⟩ : Q4)) 2 = gl c 2 - 0 - 0 + 1 + 1 := ⟨gl_after h (by decide) 0, gl_after h (by decide) 1, gl_after h (by decide) 2⟩
theorem f3_1222 {c : List Int} (h : c.length = 3) : gl (after c (⟨1, 2, 2, 2⟩ : Q4)) 0 = gl c 0 - 0 - 0 + 0 + 0 ∧ gl (after c (⟨1, 2, 2, 2⟩ : Q4)) 1 = gl c 1 - 1 - 0 + 0 + 0 ∧ gl (after c (⟨1, 2, 2, 2⟩ : Q4)) 2 = gl c 2 - 0 - 1 + 1 + 1 := ⟨gl_after h (by decide) 0, gl_after h (by decide) 1, gl_after h (by decide) 2⟩
theorem f3_2222 {c : List Int} (h : c.length = 3) : gl (after c (⟨2, 2, 2, 2⟩ : Q4)) 0 = gl c 0 - 0 - 0 + 0 + 0 ∧ gl (after c (⟨2, 2, 2, 2⟩ : Q4)) 1 = gl c 1 - 0 - 0 + 0 + 0 ∧ gl (after c (⟨2, 2, 2, 2⟩ : Q4)) 2 = gl c 2 - 1 - 1 + 1 + 1 := ⟨gl_after h (by decide) 0, gl_after h (by decide) 1, gl_after h (by decide) 2⟩
theorem at2_no  {c : List Int} (hc : CrOk 3 c) (hi : 1 * gl c 1 + 2 * gl c 2 < 2) : DeciC [⟨0, 2, 2, 2⟩, ⟨1, 1, 2, 2⟩, ⟨1, 2, 2, 2⟩, ⟨2, 2, 2, 2⟩] [0, 0, 1] 0 c := by
  refine dec_of (n := 3) (by decide) (fun c => 1 * gl c 1 + 2 * gl c 2 < 2) (fun c => True) (fun c => ((0 : Int)).toNat) ?_ ?_ ?_ ?_ hc hi
  · intro c r hc hi hr ha
    have hn := nz3 hc
    simp only [List.mem_cons, List.not_mem_nil, or_false] at hr
    rcases hr with rfl | rfl | rfl | rfl
    · have e := f3_0222 hc.len; have ha : 0 < gl c 0 ∧ 0 < gl c 2 := ha; omega
    · have e := f3_1122 hc.len; have ha : 1 < gl c 1 := ha; omega
    · have e := f3_1222 hc.len; have ha : 0 < gl c 1 ∧ 0 < gl c 2 := ha; omega
    · have e := f3_2222 hc.len; have ha : 1 < gl c 2 := ha; omega
  · exact fun _ _ _ _ _ _ _ => trivial
  · intro c hc hi hg s hs0 hp
    have hn := nn3 hc
    have hsl : s < 3 := hs0
    have : s = 0 ∨ s = 1 ∨ s = 2 := by omega
    rcases this with rfl | rfl | rfl
    · first | (show (0 : Int) = 0; omega) | omega
    · first | (show (0 : Int) = 0; omega) | omega
    · first | (show (1 : Int) = 0; omega) | omega
  · exact fun _ _ _ h => absurd trivial h
theorem at2_yes  {c : List Int} (hc : CrOk 3 c) (hi : 2 ≤ 1 * gl c 1 + 2 * gl c 2) : DeciC [⟨0, 2, 2, 2⟩, ⟨1, 1, 2, 2⟩, ⟨1, 2, 2, 2⟩, ⟨2, 2, 2, 2⟩] [0, 0, 1] 1 c := by
  refine dec_of (n := 3) (by decide) (fun c => 2 ≤ 1 * gl c 1 + 2 * gl c 2) (fun c => gl c 0 + gl c 1 = 0) (fun c => (gl c 0 + gl c 1 + (gl c 1 + 0)).toNat) ?_ ?_ ?_ ?_ hc hi
  · intro c r hc hi hr ha
    have hn := nz3 hc
    simp only [List.mem_cons, List.not_mem_nil, or_false] at hr
    rcases hr with rfl | rfl | rfl | rfl
    · have e := f3_0222 hc.len; have ha : 0 < gl c 0 ∧ 0 < gl c 2 := ha; omega
    · have e := f3_1122 hc.len; have ha : 1 < gl c 1 := ha; omega
    · have e := f3_1222 hc.len; have ha : 0 < gl c 1 ∧ 0 < gl c 2 := ha; omega
    · have e := f3_2222 hc.len; have ha : 1 < gl c 2 := ha; omega
  · intro c r hc hi hg hr ha
    have hn := nz3 hc
    simp only [List.mem_cons, List.not_mem_nil, or_false] at hr
    rcases hr with rfl | rfl | rfl | rfl
    · have e := f3_0222 hc.len; have ha : 0 < gl c 0 ∧ 0 < gl c 2 := ha; omega
    · have e := f3_1122 hc.len; have ha : 1 < gl c 1 := ha; omega
    · have e := f3_1222 hc.len; have ha : 0 < gl c 1 ∧ 0 < gl c 2 := ha; omega
    · have e := f3_2222 hc.len; have ha : 1 < gl c 2 := ha; omega
  · intro c hc hi hg s hs0 hp
    have hn := nn3 hc
    have hsl : s < 3 := hs0
    have : s = 0 ∨ s = 1 ∨ s = 2 := by omega
    rcases this with rfl | rfl | rfl
    · first | (show (0 : Int) = 1; omega) | omega
    · first | (show (0 : Int) = 1; omega) | omega
    · first | (show (1 : Int) = 1; omega) | omega
  · intro c hc hi hg
    have hn := nn3 hc
    by_cases h0 : 0 < gl c 2 ∧ 0 < gl c 0
    · refine ⟨(⟨0, 2, 2, 2⟩ : Q4), by simp, (by show 0 < gl c 0 ∧ 0 < gl c 2; omega), ?_⟩
      have e := f3_0222 hc.len
      try dsimp only
      omega
    by_cases h1 : 0 < gl c 2 ∧ 0 < gl c 1
    · refine ⟨(⟨1, 2, 2, 2⟩ : Q4), by simp, (by show 0 < gl c 1 ∧ 0 < gl c 2; omega), ?_⟩
      have e := f3_1222 hc.len
      try dsimp only
      omega
    by_cases h2 : 1 < gl c 1
    · refine ⟨(⟨1, 1, 2, 2⟩ : Q4), by simp, (by show 1 < gl c 1; omega), ?_⟩
      have e := f3_1122 hc.len
      try dsimp only
      omega
    exfalso
    omega
theorem f4_0333 {c : List Int} (h : c.length = 4) : gl (after c (⟨0, 3, 3, 3⟩ : Q4)) 0 = gl c 0 - 1 - 0 + 0 + 0 ∧ gl (after c (⟨0, 3, 3, 3⟩ : Q4)) 1 = gl c 1 - 0 - 0 + 0 + 0 ∧ gl (after c (⟨0, 3, 3, 3⟩ : Q4)) 2 = gl c 2 - 0 - 0 + 0 + 0 ∧ gl (after c (⟨0, 3, 3, 3⟩ : Q4)) 3 = gl c 3 - 0 - 1 + 1 + 1 := ⟨gl_after h (by decide) 0, gl_after h (by decide) 1, gl_after h (by decide) 2, gl_after h (by decide) 3⟩
theorem f4_1120 {c : List Int} (h : c.length = 4) : gl (after c (⟨1, 1, 2, 0⟩ : Q4)) 0 = gl c 0 - 0 - 0 + 0 + 1 ∧ gl (after c (⟨1, 1, 2, 0⟩ : Q4)) 1 = gl c 1 - 1 - 1 + 0 + 0 ∧ gl (after c (⟨1, 1, 2, 0⟩ : Q4)) 2 = gl c 2 - 0 - 0 + 1 + 0 ∧ gl (after c (⟨1, 1, 2, 0⟩ : Q4)) 3 = gl c 3 - 0 - 0 + 0 + 0 := ⟨gl_after h (by decide) 0, gl_after h (by decide) 1, gl_after h (by decide) 2, gl_after h (by decide) 3⟩
theorem f4_1233 {c : List Int} (h : c.length = 4) : gl (after c (⟨1, 2, 3, 3⟩ : Q4)) 0 = gl c 0 - 0 - 0 + 0 + 0 ∧ gl (after c (⟨1, 2, 3, 3⟩ : Q4)) 1 = gl c 1 - 1 - 0 + 0 + 0 ∧ gl (after c (⟨1, 2, 3, 3⟩ : Q4)) 2 = gl c 2 - 0 - 1 + 0 + 0 ∧ gl (after c (⟨1, 2, 3, 3⟩ : Q4)) 3 = gl c 3 - 0 - 0 + 1 + 1 := ⟨gl_after h (by decide) 0, gl_after h (by decide) 1, gl_after h (by decide) 2, gl_after h (by decide) 3⟩
theorem f4_1333 {c : List Int} (h : c.length = 4) : gl (after c (⟨1, 3, 3, 3⟩ : Q4)) 0 = gl c 0 - 0 - 0 + 0 + 0 ∧ gl (after c (⟨1, 3, 3, 3⟩ : Q4)) 1 = gl c 1 - 1 - 0 + 0 + 0 ∧ gl (after c (⟨1, 3, 3, 3⟩ : Q4)) 2 = gl c 2 - 0 - 0 + 0 + 0 ∧ gl (after c (⟨1, 3, 3, 3⟩ : Q4)) 3 = gl c 3 - 0 - 1 + 1 + 1 := ⟨gl_after h (by decide) 0, gl_after h (by decide) 1, gl_after h (by decide) 2, gl_after h (by decide) 3⟩
theorem f4_2233 {c : List Int} (h : c.length = 4) : gl (after c (⟨2, 2, 3, 3⟩ : Q4)) 0 = gl c 0 - 0 - 0 + 0 + 0 ∧ gl (after c (⟨2, 2, 3, 3⟩ : Q4)) 1 = gl c 1 - 0 - 0 + 0 + 0 ∧ gl (after c (⟨2, 2, 3, 3⟩ : Q4)) 2 = gl c 2 - 1 - 1 + 0 + 0 ∧ gl (after c (⟨2, 2, 3, 3⟩ : Q4)) 3 = gl c 3 - 0 - 0 + 1 + 1 := ⟨gl_after h (by decide) 0, gl_after h (by decide) 1, gl_after h (by decide) 2, gl_after h (by decide) 3⟩
theorem f4_2333 {c : List Int} (h : c.length = 4) : gl (after c (⟨2, 3, 3, 3⟩ : Q4)) 0 = gl c 0 - 0 - 0 + 0 + 0 ∧ gl (after c (⟨2, 3, 3, 3⟩ : Q4)) 1 = gl c 1 - 0 - 0 + 0 + 0 ∧ gl (after c (⟨2, 3, 3, 3⟩ : Q4)) 2 = gl c 2 - 1 - 0 + 0 + 0 ∧ gl (after c (⟨2, 3, 3, 3⟩ : Q4)) 3 = gl c 3 - 0 - 1 + 1 + 1 := ⟨gl_after h (by decide) 0, gl_after h (by decide) 1, gl_after h (by decide) 2, gl_after h (by decide) 3⟩
theorem f4_3333 {c : List Int} (h : c.length = 4) : gl (after c (⟨3, 3, 3, 3⟩ : Q4)) 0 = gl c 0 - 0 - 0 + 0 + 0 ∧ gl (after c (⟨3, 3, 3, 3⟩ : Q4)) 1 = gl c 1 - 0 - 0 + 0 + 0 ∧ gl (after c (⟨3, 3, 3, 3⟩ : Q4)) 2 = gl c 2 - 0 - 0 + 0 + 0 ∧ gl (after c (⟨3, 3, 3, 3⟩ : Q4)) 3 = gl c 3 - 1 - 1 + 1 + 1 := ⟨gl_after h (by decide) 0, gl_after h (by decide) 1, gl_after h (by decide) 2, gl_after h (by decide) 3⟩
theorem at3_no  {c : List Int} (hc : CrOk 4 c) (hi : 1 * gl c 1 + 2 * gl c 2 + 3 * gl c 3 < 3) : DeciC [⟨0, 3, 3, 3⟩, ⟨1, 1, 2, 0⟩, ⟨1, 2, 3, 3⟩, ⟨1, 3, 3, 3⟩, ⟨2, 2, 3, 3⟩, ⟨2, 3, 3, 3⟩, ⟨3, 3, 3, 3⟩] [0, 0, 0, 1] 0 c := by
  refine dec_of (n := 4) (by decide) (fun c => 1 * gl c 1 + 2 * gl c 2 + 3 * gl c 3 < 3) (fun c => True) (fun c => ((0 : Int)).toNat) ?_ ?_ ?_ ?_ hc hi
  · intro c r hc hi hr ha
    have hn := nz4 hc
    simp only [List.mem_cons, List.not_mem_nil, or_false] at hr
    rcases hr with rfl | rfl | rfl | rfl | rfl | rfl | rfl
    · have e := f4_0333 hc.len; have ha : 0 < gl c 0 ∧ 0 < gl c 3 := ha; omega
    · have e := f4_1120 hc.len; have ha : 1 < gl c 1 := ha; omega
    · have e := f4_1233 hc.len; have ha : 0 < gl c 1 ∧ 0 < gl c 2 := ha; omega
    · have e := f4_1333 hc.len; have ha : 0 < gl c 1 ∧ 0 < gl c 3 := ha; omega
    · have e := f4_2233 hc.len; have ha : 1 < gl c 2 := ha; omega
    · have e := f4_2333 hc.len; have ha : 0 < gl c 2 ∧ 0 < gl c 3 := ha; omega
    · have e := f4_3333 hc.len; have ha : 1 < gl c 3 := ha; omega
  · exact fun _ _ _ _ _ _ _ => trivial
  · intro c hc hi hg s hs0 hp
    have hn := nn4 hc
    have hsl : s < 4 := hs0
    have : s = 0 ∨ s = 1 ∨ s = 2 ∨ s = 3 := by omega
    rcases this with rfl | rfl | rfl | rfl
    · first | (show (0 : Int) = 0; omega) | omega
    · first | (show (0 : Int) = 0; omega) | omega
    · first | (show (0 : Int) = 0; omega) | omega
    · first | (show (1 : Int) = 0; omega) | omega
  · exact fun _ _ _ h => absurd trivial h
theorem at3_yes  {c : List Int} (hc : CrOk 4 c) (hi : 3 ≤ 1 * gl c 1 + 2 * gl c 2 + 3 * gl c 3) : DeciC [⟨0, 3, 3, 3⟩, ⟨1, 1, 2, 0⟩, ⟨1, 2, 3, 3⟩, ⟨1, 3, 3, 3⟩, ⟨2, 2, 3, 3⟩, ⟨2, 3, 3, 3⟩, ⟨3, 3, 3, 3⟩] [0, 0, 0, 1] 1 c := by
  refine dec_of (n := 4) (by decide) (fun c => 3 ≤ 1 * gl c 1 + 2 * gl c 2 + 3 * gl c 3) (fun c => gl c 0 + gl c 1 + gl c 2 = 0) (fun c => (gl c 0 + gl c 1 + gl c 2 + (gl c 1 + gl c 2 + 0)).toNat) ?_ ?_ ?_ ?_ hc hi
  · intro c r hc hi hr ha
    have hn := nz4 hc
    simp only [List.mem_cons, List.not_mem_nil, or_false] at hr
    rcases hr with rfl | rfl | rfl | rfl | rfl | rfl | rfl
    · have e := f4_0333 hc.len; have ha : 0 < gl c 0 ∧ 0 < gl c 3 := ha; omega
    · have e := f4_1120 hc.len; have ha : 1 < gl c 1 := ha; omega
    · have e := f4_1233 hc.len; have ha : 0 < gl c 1 ∧ 0 < gl c 2 := ha; omega
    · have e := f4_1333 hc.len; have ha : 0 < gl c 1 ∧ 0 < gl c 3 := ha; omega
    · have e := f4_2233 hc.len; have ha : 1 < gl c 2 := ha; omega
    · have e := f4_2333 hc.len; have ha : 0 < gl c 2 ∧ 0 < gl c 3 := ha; omega
    · have e := f4_3333 hc.len; have ha : 1 < gl c 3 := ha; omega
  · intro c r hc hi hg hr ha
    have hn := nz4 hc
    simp only [List.mem_cons, List.not_mem_nil, or_false] at hr
    rcases hr with rfl | rfl | rfl | rfl | rfl | rfl | rfl
    · have e := f4_0333 hc.len; have ha : 0 < gl c 0 ∧ 0 < gl c 3 := ha; omega
    · have e := f4_1120 hc.len; have ha : 1 < gl c 1 := ha; omega
    · have e := f4_1233 hc.len; have ha : 0 < gl c 1 ∧ 0 < gl c 2 := ha; omega
    · have e := f4_1333 hc.len; have ha : 0 < gl c 1 ∧ 0 < gl c 3 := ha; omega
    · have e := f4_2233 hc.len; have ha : 1 < gl c 2 := ha; omega
    · have e := f4_2333 hc.len; have ha : 0 < gl c 2 ∧ 0 < gl c 3 := ha; omega
    · have e := f4_3333 hc.len; have ha : 1 < gl c 3 := ha; omega
  · intro c hc hi hg s hs0 hp
    have hn := nn4 hc
    have hsl : s < 4 := hs0
    have : s = 0 ∨ s = 1 ∨ s = 2 ∨ s = 3 := by omega
    rcases this with rfl | rfl | rfl | rfl
    · first | (show (0 : Int) = 1; omega) | omega
    · first | (show (0 : Int) = 1; omega) | omega
    · first | (show (0 : Int) = 1; omega) | omega
    · first | (show (1 : Int) = 1; omega) | omega
  · intro c hc hi hg
    have hn := nn4 hc
    by_cases h0 : 0 < gl c 3 ∧ 0 < gl c 0
    · refine ⟨(⟨0, 3, 3, 3⟩ : Q4), by simp, (by show 0 < gl c 0 ∧ 0 < gl c 3; omega), ?_⟩
      have e := f4_0333 hc.len
      try dsimp only
      omega
    by_cases h1 : 0 < gl c 3 ∧ 0 < gl c 1
    · refine ⟨(⟨1, 3, 3, 3⟩ : Q4), by simp, (by show 0 < gl c 1 ∧ 0 < gl c 3; omega), ?_⟩
      have e := f4_1333 hc.len
      try dsimp only
      omega
    by_cases h2 : 0 < gl c 3 ∧ 0 < gl c 2
    · refine ⟨(⟨2, 3, 3, 3⟩ : Q4), by simp, (by show 0 < gl c 2 ∧ 0 < gl c 3; omega), ?_⟩
      have e := f4_2333 hc.len
      try dsimp only
      omega
    by_cases h3 : 1 < gl c 1
    · refine ⟨(⟨1, 1, 2, 0⟩ : Q4), by simp, (by show 1 < gl c 1; omega), ?_⟩
      have e := f4_1120 hc.len
      try dsimp only
      omega
    by_cases h4 : 0 < gl c 1 ∧ 0 < gl c 2
    · refine ⟨(⟨1, 2, 3, 3⟩ : Q4), by simp, (by show 0 < gl c 1 ∧ 0 < gl c 2; omega), ?_⟩
      have e := f4_1233 hc.len
      try dsimp only
      omega
    by_cases h5 : 1 < gl c 2
    · refine ⟨(⟨2, 2, 3, 3⟩ : Q4), by simp, (by show 1 < gl c 2; omega), ?_⟩
      have e := f4_2233 hc.len
      try dsimp only
      omega
    exfalso
    omega
theorem f5_0444 {c : List Int} (h : c.length = 5) : gl (after c (⟨0, 4, 4, 4⟩ : Q4)) 0 = gl c 0 - 1 - 0 + 0 + 0 ∧ gl (after c (⟨0, 4, 4, 4⟩ : Q4)) 1 = gl c 1 - 0 - 0 + 0 + 0 ∧ gl (after c (⟨0, 4, 4, 4⟩ : Q4)) 2 = gl c 2 - 0 - 0 + 0 + 0 ∧ gl (after c (⟨0, 4, 4, 4⟩ : Q4)) 3 = gl c 3 - 0 - 0 + 0 + 0 ∧ gl (after c (⟨0, 4, 4, 4⟩ : Q4)) 4 = gl c 4 - 0 - 1 + 1 + 1 := ⟨gl_after h (by decide) 0, gl_after h (by decide) 1, gl_after h (by decide) 2, gl_after h (by decide) 3, gl_after h (by decide) 4⟩
theorem f5_1120 {c : List Int} (h : c.length = 5) : gl (after c (⟨1, 1, 2, 0⟩ : Q4)) 0 = gl c 0 - 0 - 0 + 0 + 1 ∧ gl (after c (⟨1, 1, 2, 0⟩ : Q4)) 1 = gl c 1 - 1 - 1 + 0 + 0 ∧ gl (after c (⟨1, 1, 2, 0⟩ : Q4)) 2 = gl c 2 - 0 - 0 + 1 + 0 ∧ gl (after c (⟨1, 1, 2, 0⟩ : Q4)) 3 = gl c 3 - 0 - 0 + 0 + 0 ∧ gl (after c (⟨1, 1, 2, 0⟩ : Q4)) 4 = gl c 4 - 0 - 0 + 0 + 0 := ⟨gl_after h (by decide) 0, gl_after h (by decide) 1, gl_after h (by decide) 2, gl_after h (by decide) 3, gl_after h (by decide) 4⟩
theorem f5_1230 {c : List Int} (h : c.length = 5) : gl (after c (⟨1, 2, 3, 0⟩ : Q4)) 0 = gl c 0 - 0 - 0 + 0 + 1 ∧ gl (after c (⟨1, 2, 3, 0⟩ : Q4)) 1 = gl c 1 - 1 - 0 + 0 + 0 ∧ gl (after c (⟨1, 2, 3, 0⟩ : Q4)) 2 = gl c 2 - 0 - 1 + 0 + 0 ∧ gl (after c (⟨1, 2, 3, 0⟩ : Q4)) 3 = gl c 3 - 0 - 0 + 1 + 0 ∧ gl (after c (⟨1, 2, 3, 0⟩ : Q4)) 4 = gl c 4 - 0 - 0 + 0 + 0 := ⟨gl_after h (by decide) 0, gl_after h (by decide) 1, gl_after h (by decide) 2, gl_after h (by decide) 3, gl_after h (by decide) 4⟩
theorem f5_1344 {c : List Int} (h : c.length = 5) : gl (after c (⟨1, 3, 4, 4⟩ : Q4)) 0 = gl c 0 - 0 - 0 + 0 + 0 ∧ gl (after c (⟨1, 3, 4, 4⟩ : Q4)) 1 = gl c 1 - 1 - 0 + 0 + 0 ∧ gl (after c (⟨1, 3, 4, 4⟩ : Q4)) 2 = gl c 2 - 0 - 0 + 0 + 0 ∧ gl (after c (⟨1, 3, 4, 4⟩ : Q4)) 3 = gl c 3 - 0 - 1 + 0 + 0 ∧ gl (after c (⟨1, 3, 4, 4⟩ : Q4)) 4 = gl c 4 - 0 - 0 + 1 + 1 := ⟨gl_after h (by decide) 0, gl_after h (by decide) 1, gl_after h (by decide) 2, gl_after h (by decide) 3, gl_after h (by decide) 4⟩
theorem f5_1444 {c : List Int} (h : c.length = 5) : gl (after c (⟨1, 4, 4, 4⟩ : Q4)) 0 = gl c 0 - 0 - 0 + 0 + 0 ∧ gl (after c (⟨1, 4, 4, 4⟩ : Q4)) 1 = gl c 1 - 1 - 0 + 0 + 0 ∧ gl (after c (⟨1, 4, 4, 4⟩ : Q4)) 2 = gl c 2 - 0 - 0 + 0 + 0 ∧ gl (after c (⟨1, 4, 4, 4⟩ : Q4)) 3 = gl c 3 - 0 - 0 + 0 + 0 ∧ gl (after c (⟨1, 4, 4, 4⟩ : Q4)) 4 = gl c 4 - 0 - 1 + 1 + 1 := ⟨gl_after h (by decide) 0, gl_after h (by decide) 1, gl_after h (by decide) 2, gl_after h (by decide) 3, gl_after h (by decide) 4⟩
theorem f5_2244 {c : List Int} (h : c.length = 5) : gl (after c (⟨2, 2, 4, 4⟩ : Q4)) 0 = gl c 0 - 0 - 0 + 0 + 0 ∧ gl (after c (⟨2, 2, 4, 4⟩ : Q4)) 1 = gl c 1 - 0 - 0 + 0 + 0 ∧ gl (after c (⟨2, 2, 4, 4⟩ : Q4)) 2 = gl c 2 - 1 - 1 + 0 + 0 ∧ gl (after c (⟨2, 2, 4, 4⟩ : Q4)) 3 = gl c 3 - 0 - 0 + 0 + 0 ∧ gl (after c (⟨2, 2, 4, 4⟩ : Q4)) 4 = gl c 4 - 0 - 0 + 1 + 1 := ⟨gl_after h (by decide) 0, gl_after h (by decide) 1, gl_after h (by decide) 2, gl_after h (by decide) 3, gl_after h (by decide) 4⟩
theorem f5_2344 {c : List Int} (h : c.length = 5) : gl (after c (⟨2, 3, 4, 4⟩ : Q4)) 0 = gl c 0 - 0 - 0 + 0 + 0 ∧ gl (after c (⟨2, 3, 4, 4⟩ : Q4)) 1 = gl c 1 - 0 - 0 + 0 + 0 ∧ gl (after c (⟨2, 3, 4, 4⟩ : Q4)) 2 = gl c 2 - 1 - 0 + 0 + 0 ∧ gl (after c (⟨2, 3, 4, 4⟩ : Q4)) 3 = gl c 3 - 0 - 1 + 0 + 0 ∧ gl (after c (⟨2, 3, 4, 4⟩ : Q4)) 4 = gl c 4 - 0 - 0 + 1 + 1 := ⟨gl_after h (by decide) 0, gl_after h (by decide) 1, gl_after h (by decide) 2, gl_after h (by decide) 3, gl_after h (by decide) 4⟩
theorem f5_2444 {c : List Int} (h : c.length = 5) : gl (after c (⟨2, 4, 4, 4⟩ : Q4)) 0 = gl c 0 - 0 - 0 + 0 + 0 ∧ gl (after c (⟨2, 4, 4, 4⟩ : Q4)) 1 = gl c 1 - 0 - 0 + 0 + 0 ∧ gl (after c (⟨2, 4, 4, 4⟩ : Q4)) 2 = gl c 2 - 1 - 0 + 0 + 0 ∧ gl (after c (⟨2, 4, 4, 4⟩ : Q4)) 3 = gl c 3 - 0 - 0 + 0 + 0 ∧ gl (after c (⟨2, 4, 4, 4⟩ : Q4)) 4 = gl c 4 - 0 - 1 + 1 + 1 := ⟨gl_after h (by decide) 0, gl_after h (by decide) 1, gl_after h (by decide) 2, gl_after h (by decide) 3, gl_after h (by decide) 4⟩
theorem f5_3344 {c : List Int} (h : c.length = 5) : gl (after c (⟨3, 3, 4, 4⟩ : Q4)) 0 = gl c 0 - 0 - 0 + 0 + 0 ∧ gl (after c (⟨3, 3, 4, 4⟩ : Q4)) 1 = gl c 1 - 0 - 0 + 0 + 0 ∧ gl (after c (⟨3, 3, 4, 4⟩ : Q4)) 2 = gl c 2 - 0 - 0 + 0 + 0 ∧ gl (after c (⟨3, 3, 4, 4⟩ : Q4)) 3 = gl c 3 - 1 - 1 + 0 + 0 ∧ gl (after c (⟨3, 3, 4, 4⟩ : Q4)) 4 = gl c 4 - 0 - 0 + 1 + 1 := ⟨gl_after h (by decide) 0, gl_after h (by decide) 1, gl_after h (by decide) 2, gl_after h (by decide) 3, gl_after h (by decide) 4⟩
theorem f5_3444 {c : List Int} (h : c.length = 5) : gl (after c (⟨3, 4, 4, 4⟩ : Q4)) 0 = gl c 0 - 0 - 0 + 0 + 0 ∧ gl (after c (⟨3, 4, 4, 4⟩ : Q4)) 1 = gl c 1 - 0 - 0 + 0 + 0 ∧ gl (after c (⟨3, 4, 4, 4⟩ : Q4)) 2 = gl c 2 - 0 - 0 + 0 + 0 ∧ gl (after c (⟨3, 4, 4, 4⟩ : Q4)) 3 = gl c 3 - 1 - 0 + 0 + 0 ∧ gl (after c (⟨3, 4, 4, 4⟩ : Q4)) 4 = gl c 4 - 0 - 1 + 1 + 1 := ⟨gl_after h (by decide) 0, gl_after h (by decide) 1, gl_after h (by decide) 2, gl_after h (by decide) 3, gl_after h (by decide) 4⟩
theorem f5_4444 {c : List Int} (h : c.length = 5) : gl (after c (⟨4, 4, 4, 4⟩ : Q4)) 0 = gl c 0 - 0 - 0 + 0 + 0 ∧ gl (after c (⟨4, 4, 4, 4⟩ : Q4)) 1 = gl c 1 - 0 - 0 + 0 + 0 ∧ gl (after c (⟨4, 4, 4, 4⟩ : Q4)) 2 = gl c 2 - 0 - 0 + 0 + 0 ∧ gl (after c (⟨4, 4, 4, 4⟩ : Q4)) 3 = gl c 3 - 0 - 0 + 0 + 0 ∧ gl (after c (⟨4, 4, 4, 4⟩ : Q4)) 4 = gl c 4 - 1 - 1 + 1 + 1 := ⟨gl_after h (by decide) 0, gl_after h (by decide) 1, gl_after h (by decide) 2, gl_after h (by decide) 3, gl_after h (by decide) 4⟩
theorem at4_no  {c : List Int} (hc : CrOk 5 c) (hi : 1 * gl c 1 + 2 * gl c 2 + 3 * gl c 3 + 4 * gl c 4 < 4) : DeciC [⟨0, 4, 4, 4⟩, ⟨1, 1, 2, 0⟩, ⟨1, 2, 3, 0⟩, ⟨1, 3, 4, 4⟩, ⟨1, 4, 4, 4⟩, ⟨2, 2, 4, 4⟩, ⟨2, 3, 4, 4⟩, ⟨2, 4, 4, 4⟩, ⟨3, 3, 4, 4⟩, ⟨3, 4, 4, 4⟩, ⟨4, 4, 4, 4⟩] [0, 0, 0, 0, 1] 0 c := by
  refine dec_of (n := 5) (by decide) (fun c => 1 * gl c 1 + 2 * gl c 2 + 3 * gl c 3 + 4 * gl c 4 < 4) (fun c => True) (fun c => ((0 : Int)).toNat) ?_ ?_ ?_ ?_ hc hi
  · intro c r hc hi hr ha
    have hn := nz5 hc
    simp only [List.mem_cons, List.not_mem_nil, or_false] at hr
    rcases hr with rfl | rfl | rfl | rfl | rfl | rfl | rfl | rfl | rfl | rfl | rfl
    · have e := f5_0444 hc.len; have ha : 0 < gl c 0 ∧ 0 < gl c 4 := ha; omega
    · have e := f5_1120 hc.len; have ha : 1 < gl c 1 := ha; omega
    · have e := f5_1230 hc.len; have ha : 0 < gl c 1 ∧ 0 < gl c 2 := ha; omega
    · have e := f5_1344 hc.len; have ha : 0 < gl c 1 ∧ 0 < gl c 3 := ha; omega
    · have e := f5_1444 hc.len; have ha : 0 < gl c 1 ∧ 0 < gl c 4 := ha; omega
    · have e := f5_2244 hc.len; have ha : 1 < gl c 2 := ha; omega
    · have e := f5_2344 hc.len; have ha : 0 < gl c 2 ∧ 0 < gl c 3 := ha; omega
    · have e := f5_2444 hc.len; have ha : 0 < gl c 2 ∧ 0 < gl c 4 := ha; omega
    · have e := f5_3344 hc.len; have ha : 1 < gl c 3 := ha; omega
    · have e := f5_3444 hc.len; have ha : 0 < gl c 3 ∧ 0 < gl c 4 := ha; omega
    · have e := f5_4444 hc.len; have ha : 1 < gl c 4 := ha; omega
  · exact fun _ _ _ _ _ _ _ => trivial
  · intro c hc hi hg s hs0 hp
    have hn := nn5 hc
    have hsl : s < 5 := hs0
    have : s = 0 ∨ s = 1 ∨ s = 2 ∨ s = 3 ∨ s = 4 := by omega
    rcases this with rfl | rfl | rfl | rfl | rfl
    · first | (show (0 : Int) = 0; omega) | omega
    · first | (show (0 : Int) = 0; omega) | omega
    · first | (show (0 : Int) = 0; omega) | omega
    · first | (show (0 : Int) = 0; omega) | omega
    · first | (show (1 : Int) = 0; omega) | omega
  · exact fun _ _ _ h => absurd trivial h
theorem at4_yes  {c : List Int} (hc : CrOk 5 c) (hi : 4 ≤ 1 * gl c 1 + 2 * gl c 2 + 3 * gl c 3 + 4 * gl c 4) : DeciC [⟨0, 4, 4, 4⟩, ⟨1, 1, 2, 0⟩, ⟨1, 2, 3, 0⟩, ⟨1, 3, 4, 4⟩, ⟨1, 4, 4, 4⟩, ⟨2, 2, 4, 4⟩, ⟨2, 3, 4, 4⟩, ⟨2, 4, 4, 4⟩, ⟨3, 3, 4, 4⟩, ⟨3, 4, 4, 4⟩, ⟨4, 4, 4, 4⟩] [0, 0, 0, 0, 1] 1 c := by
  refine dec_of (n := 5) (by decide) (fun c => 4 ≤ 1 * gl c 1 + 2 * gl c 2 + 3 * gl c 3 + 4 * gl c 4) (fun c => gl c 0 + gl c 1 + gl c 2 + gl c 3 = 0) (fun c => (gl c 0 + gl c 1 + gl c 2 + gl c 3 + (gl c 1 + gl c 2 + gl c 3 + 0)).toNat) ?_ ?_ ?_ ?_ hc hi
  · intro c r hc hi hr ha
    have hn := nz5 hc
    simp only [List.mem_cons, List.not_mem_nil, or_false] at hr
    rcases hr with rfl | rfl | rfl | rfl | rfl | rfl | rfl | rfl | rfl | rfl | rfl
    · have e := f5_0444 hc.len; have ha : 0 < gl c 0 ∧ 0 < gl c 4 := ha; omega
    · have e := f5_1120 hc.len; have ha : 1 < gl c 1 := ha; omega
    · have e := f5_1230 hc.len; have ha : 0 < gl c 1 ∧ 0 < gl c 2 := ha; omega
    · have e := f5_1344 hc.len; have ha : 0 < gl c 1 ∧ 0 < gl c 3 := ha; omega
    · have e := f5_1444 hc.len; have ha : 0 < gl c 1 ∧ 0 < gl c 4 := ha; omega
    · have e := f5_2244 hc.len; have ha : 1 < gl c 2 := ha; omega
    · have e := f5_2344 hc.len; have ha : 0 < gl c 2 ∧ 0 < gl c 3 := ha; omega
    · have e := f5_2444 hc.len; have ha : 0 < gl c 2 ∧ 0 < gl c 4 := ha; omega
    · have e := f5_3344 hc.len; have ha : 1 < gl c 3 := ha; omega
    · have e := f5_3444 hc.len; have ha : 0 < gl c 3 ∧ 0 < gl c 4 := ha; omega
    · have e := f5_4444 hc.len; have ha : 1 < gl c 4 := ha; omega
  · intro c r hc hi hg hr ha
    have hn := nz5 hc
    simp only [List.mem_cons, List.not_mem_nil, or_false] at hr
    rcases hr with rfl | rfl | rfl | rfl | rfl | rfl | rfl | rfl | rfl | rfl | rfl
    · have e := f5_0444 hc.len; have ha : 0 < gl c 0 ∧ 0 < gl c 4 := ha; omega
    · have e := f5_1120 hc.len; have ha : 1 < gl c 1 := ha; omega
    · have e := f5_1230 hc.len; have ha : 0 < gl c 1 ∧ 0 < gl c 2 := ha; omega
    · have e := f5_1344 hc.len; have ha : 0 < gl c 1 ∧ 0 < gl c 3 := ha; omega
    · have e := f5_1444 hc.len; have ha : 0 < gl c 1 ∧ 0 < gl c 4 := ha; omega
    · have e := f5_2244 hc.len; have ha : 1 < gl c 2 := ha; omega
    · have e := f5_2344 hc.len; have ha : 0 < gl c 2 ∧ 0 < gl c 3 := ha; omega
    · have e := f5_2444 hc.len; have ha : 0 < gl c 2 ∧ 0 < gl c 4 := ha; omega
    · have e := f5_3344 hc.len; have ha : 1 < gl c 3 := ha; omega
    · have e := f5_3444 hc.len; have ha : 0 < gl c 3 ∧ 0 < gl c 4 := ha; omega
    · have e := f5_4444 hc.len; have ha : 1 < gl c 4 := ha; omega
  · intro c hc hi hg s hs0 hp
    have hn := nn5 hc
    have hsl : s < 5 := hs0
    have : s = 0 ∨ s = 1 ∨ s = 2 ∨ s = 3 ∨ s = 4 := by omega
    rcases this with rfl | rfl | rfl | rfl | rfl
    · first | (show (0 : Int) = 1; omega) | omega
    · first | (show (0 : Int) = 1; omega) | omega
    · first | (show (0 : Int) = 1; omega) | omega
    · first | (show (0 : Int) = 1; omega) | omega
    · first | (show (1 : Int) = 1; omega) | omega
  · intro c hc hi hg
    have hn := nn5 hc
    by_cases h0 : 0 < gl c 4 ∧ 0 < gl c 0
    · refine ⟨(⟨0, 4, 4, 4⟩ : Q4), by simp, (by show 0 < gl c 0 ∧ 0 < gl c 4; omega), ?_⟩
      have e := f5_0444 hc.len
      try dsimp only
      omega
    by_cases h1 : 0 < gl c 4 ∧ 0 < gl c 1
    · refine ⟨(⟨1, 4, 4, 4⟩ : Q4), by simp, (by show 0 < gl c 1 ∧ 0 < gl c 4; omega), ?_⟩
      have e := f5_1444 hc.len
      try dsimp only
      omega
    by_cases h2 : 0 < gl c 4 ∧ 0 < gl c 2
    · refine ⟨(⟨2, 4, 4, 4⟩ : Q4), by simp, (by show 0 < gl c 2 ∧ 0 < gl c 4; omega), ?_⟩
      have e := f5_2444 hc.len
      try dsimp only
      omega
    by_cases h3 : 0 < gl c 4 ∧ 0 < gl c 3
    · refine ⟨(⟨3, 4, 4, 4⟩ : Q4), by simp, (by show 0 < gl c 3 ∧ 0 < gl c 4; omega), ?_⟩
      have e := f5_3444 hc.len
      try dsimp only
      omega
    by_cases h4 : 1 < gl c 1
    · refine ⟨(⟨1, 1, 2, 0⟩ : Q4), by simp, (by show 1 < gl c 1; omega), ?_⟩
      have e := f5_1120 hc.len
      try dsimp only
      omega
    by_cases h5 : 0 < gl c 1 ∧ 0 < gl c 2
    · refine ⟨(⟨1, 2, 3, 0⟩ : Q4), by simp, (by show 0 < gl c 1 ∧ 0 < gl c 2; omega), ?_⟩
      have e := f5_1230 hc.len
      try dsimp only
      omega
    by_cases h6 : 0 < gl c 1 ∧ 0 < gl c 3
    · refine ⟨(⟨1, 3, 4, 4⟩ : Q4), by simp, (by show 0 < gl c 1 ∧ 0 < gl c 3; omega), ?_⟩
      have e := f5_1344 hc.len
      try dsimp only
      omega
    by_cases h7 : 1 < gl c 2
    · refine ⟨(⟨2, 2, 4, 4⟩ : Q4), by simp, (by show 1 < gl c 2; omega), ?_⟩
      have e := f5_2244 hc.len
      try dsimp only
      omega
    by_cases h8 : 0 < gl c 2 ∧ 0 < gl c 3
    · refine ⟨(⟨2, 3, 4, 4⟩ : Q4), by simp, (by show 0 < gl c 2 ∧ 0 < gl c 3; omega), ?_⟩
      have e := f5_2344 hc.len
      try dsimp only
      omega
    by_cases h9 : 1 < gl c 3
    · refine ⟨(⟨3, 3, 4, 4⟩ : Q4), by simp, (by show 1 < gl c 3; omega), ?_⟩
      have e := f5_3344 hc.len
      try dsimp only
      omega
    exfalso
    omega
theorem f3_0002 {c : List Int} (h : c.length = 3) : gl (after c (⟨0, 0, 0, 2⟩ : Q4)) 0 = gl c 0 - 1 - 1 + 1 + 0 ∧ gl (after c (⟨0, 0, 0, 2⟩ : Q4)) 1 = gl c 1 - 0 - 0 + 0 + 0 ∧ gl (after c (⟨0, 0, 0, 2⟩ : Q4)) 2 = gl c 2 - 0 - 0 + 0 + 1 := ⟨gl_after h (by decide) 0, gl_after h (by decide) 1, gl_after h (by decide) 2⟩
theorem f3_0102 {c : List Int} (h : c.length = 3) : gl (after c (⟨0, 1, 0, 2⟩ : Q4)) 0 = gl c 0 - 1 - 0 + 1 + 0 ∧ gl (after c (⟨0, 1, 0, 2⟩ : Q4)) 1 = gl c 1 - 0 - 1 + 0 + 0 ∧ gl (after c (⟨0, 1, 0, 2⟩ : Q4)) 2 = gl c 2 - 0 - 0 + 0 + 1 := ⟨gl_after h (by decide) 0, gl_after h (by decide) 1, gl_after h (by decide) 2⟩
theorem le10_1  {c : List Int} (hc : CrOk 3 c) (hi : 1 ≤ gl c 0 ∧ (0 * gl c 0) % 1 = 0) : DeciC [⟨0, 0, 0, 2⟩, ⟨0, 1, 0, 2⟩] [1, 0, 1] 1 c := by
  refine dec_of (n := 3) (by decide) (fun c => 1 ≤ gl c 0 ∧ (0 * gl c 0) % 1 = 0) (fun c => gl c 0 = 1 ∧ gl c 1 = 0) (fun c => (10 * (gl c 0) + gl c 1).toNat) ?_ ?_ ?_ ?_ hc hi
  · intro c r hc hi hr ha
    have hn := nz3 hc
    simp only [List.mem_cons, List.not_mem_nil, or_false] at hr
    rcases hr with rfl | rfl
    · have e := f3_0002 hc.len; have ha : 1 < gl c 0 := ha; omega
    · have e := f3_0102 hc.len; have ha : 0 < gl c 0 ∧ 0 < gl c 1 := ha; omega
  · intro c r hc hi hg hr ha
    have hn := nz3 hc
    simp only [List.mem_cons, List.not_mem_nil, or_false] at hr
    rcases hr with rfl | rfl
    · have e := f3_0002 hc.len; have ha : 1 < gl c 0 := ha; omega
    · have e := f3_0102 hc.len; have ha : 0 < gl c 0 ∧ 0 < gl c 1 := ha; omega
  · intro c hc hi hg s hs0 hp
    have hn := nn3 hc
    have hsl : s < 3 := hs0
    have : s = 0 ∨ s = 1 ∨ s = 2 := by omega
    rcases this with rfl | rfl | rfl
    · first | (show (1 : Int) = 1; omega) | omega
    · first | (show (0 : Int) = 1; omega) | omega
    · first | (show (1 : Int) = 1; omega) | omega
  · intro c hc hi hg
    have hn := nn3 hc
    by_cases h0 : 1 < gl c 0
    · refine ⟨(⟨0, 0, 0, 2⟩ : Q4), by simp, (by show 1 < gl c 0; omega), ?_⟩
      have e := f3_0002 hc.len
      try dsimp only
      omega
    by_cases h1 : 0 < gl c 0 ∧ 0 < gl c 1
    · refine ⟨(⟨0, 1, 0, 2⟩ : Q4), by simp, (by show 0 < gl c 0 ∧ 0 < gl c 1; omega), ?_⟩
      have e := f3_0102 hc.len
      try dsimp only
      omega
    exfalso
    omega
theorem f4_0003 {c : List Int} (h : c.length = 4) : gl (after c (⟨0, 0, 0, 3⟩ : Q4)) 0 = gl c 0 - 1 - 1 + 1 + 0 ∧ gl (after c (⟨0, 0, 0, 3⟩ : Q4)) 1 = gl c 1 - 0 - 0 + 0 + 0 ∧ gl (after c (⟨0, 0, 0, 3⟩ : Q4)) 2 = gl c 2 - 0 - 0 + 0 + 0 ∧ gl (after c (⟨0, 0, 0, 3⟩ : Q4)) 3 = gl c 3 - 0 - 0 + 0 + 1 := ⟨gl_after h (by decide) 0, gl_after h (by decide) 1, gl_after h (by decide) 2, gl_after h (by decide) 3⟩
theorem f4_0112 {c : List Int} (h : c.length = 4) : gl (after c (⟨0, 1, 1, 2⟩ : Q4)) 0 = gl c 0 - 1 - 0 + 0 + 0 ∧ gl (after c (⟨0, 1, 1, 2⟩ : Q4)) 1 = gl c 1 - 0 - 1 + 1 + 0 ∧ gl (after c (⟨0, 1, 1, 2⟩ : Q4)) 2 = gl c 2 - 0 - 0 + 0 + 1 ∧ gl (after c (⟨0, 1, 1, 2⟩ : Q4)) 3 = gl c 3 - 0 - 0 + 0 + 0 := ⟨gl_after h (by decide) 0, gl_after h (by decide) 1, gl_after h (by decide) 2, gl_after h (by decide) 3⟩
theorem f4_0203 {c : List Int} (h : c.length = 4) : gl (after c (⟨0, 2, 0, 3⟩ : Q4)) 0 = gl c 0 - 1 - 0 + 1 + 0 ∧ gl (after c (⟨0, 2, 0, 3⟩ : Q4)) 1 = gl c 1 - 0 - 0 + 0 + 0 ∧ gl (after c (⟨0, 2, 0, 3⟩ : Q4)) 2 = gl c 2 - 0 - 1 + 0 + 0 ∧ gl (after c (⟨0, 2, 0, 3⟩ : Q4)) 3 = gl c 3 - 0 - 0 + 0 + 1 := ⟨gl_after h (by decide) 0, gl_after h (by decide) 1, gl_after h (by decide) 2, gl_after h (by decide) 3⟩
theorem f4_1103 {c : List Int} (h : c.length = 4) : gl (after c (⟨1, 1, 0, 3⟩ : Q4)) 0 = gl c 0 - 0 - 0 + 1 + 0 ∧ gl (after c (⟨1, 1, 0, 3⟩ : Q4)) 1 = gl c 1 - 1 - 1 + 0 + 0 ∧ gl (after c (⟨1, 1, 0, 3⟩ : Q4)) 2 = gl c 2 - 0 - 0 + 0 + 0 ∧ gl (after c (⟨1, 1, 0, 3⟩ : Q4)) 3 = gl c 3 - 0 - 0 + 0 + 1 := ⟨gl_after h (by decide) 0, gl_after h (by decide) 1, gl_after h (by decide) 2, gl_after h (by decide) 3⟩
theorem f4_1312 {c : List Int} (h : c.length = 4) : gl (after c (⟨1, 3, 1, 2⟩ : Q4)) 0 = gl c 0 - 0 - 0 + 0 + 0 ∧ gl (after c (⟨1, 3, 1, 2⟩ : Q4)) 1 = gl c 1 - 1 - 0 + 1 + 0 ∧ gl (after c (⟨1, 3, 1, 2⟩ : Q4)) 2 = gl c 2 - 0 - 0 + 0 + 1 ∧ gl (after c (⟨1, 3, 1, 2⟩ : Q4)) 3 = gl c 3 - 0 - 1 + 0 + 0 := ⟨gl_after h (by decide) 0, gl_after h (by decide) 1, gl_after h (by decide) 2, gl_after h (by decide) 3⟩
theorem le20_0  {c : List Int} (hc : CrOk 4 c) (hi : 1 ≤ gl c 0 + gl c 1 ∧ (0 * gl c 0 + 1 * gl c 1) % 2 ≠ 0) : DeciC [⟨0, 0, 0, 3⟩, ⟨0, 1, 1, 2⟩, ⟨0, 2, 0, 3⟩, ⟨1, 1, 0, 3⟩, ⟨1, 3, 1, 2⟩] [1, 0, 0, 1] 0 c := by
  refine dec_of (n := 4) (by decide) (fun c => 1 ≤ gl c 0 + gl c 1 ∧ (0 * gl c 0 + 1 * gl c 1) % 2 ≠ 0) (fun c => gl c 0 + gl c 1 = 1 ∧ gl c 3 = 0) (fun c => (10 * (gl c 0 + gl c 1) + gl c 3).toNat) ?_ ?_ ?_ ?_ hc hi
  · intro c r hc hi hr ha
    have hn := nz4 hc
    simp only [List.mem_cons, List.not_mem_nil, or_false] at hr
    rcases hr with rfl | rfl | rfl | rfl | rfl
    · have e := f4_0003 hc.len; have ha : 1 < gl c 0 := ha; omega
    · have e := f4_0112 hc.len; have ha : 0 < gl c 0 ∧ 0 < gl c 1 := ha; omega
    · have e := f4_0203 hc.len; have ha : 0 < gl c 0 ∧ 0 < gl c 2 := ha; omega
    · have e := f4_1103 hc.len; have ha : 1 < gl c 1 := ha; omega
    · have e := f4_1312 hc.len; have ha : 0 < gl c 1 ∧ 0 < gl c 3 := ha; omega
  · intro c r hc hi hg hr ha
    have hn := nz4 hc
    simp only [List.mem_cons, List.not_mem_nil, or_false] at hr
    rcases hr with rfl | rfl | rfl | rfl | rfl
    · have e := f4_0003 hc.len; have ha : 1 < gl c 0 := ha; omega
    · have e := f4_0112 hc.len; have ha : 0 < gl c 0 ∧ 0 < gl c 1 := ha; omega
    · have e := f4_0203 hc.len; have ha : 0 < gl c 0 ∧ 0 < gl c 2 := ha; omega
    · have e := f4_1103 hc.len; have ha : 1 < gl c 1 := ha; omega
    · have e := f4_1312 hc.len; have ha : 0 < gl c 1 ∧ 0 < gl c 3 := ha; omega
  · intro c hc hi hg s hs0 hp
    have hn := nn4 hc
    have hsl : s < 4 := hs0
    have : s = 0 ∨ s = 1 ∨ s = 2 ∨ s = 3 := by omega
    rcases this with rfl | rfl | rfl | rfl
    · first | (show (1 : Int) = 0; omega) | omega
    · first | (show (0 : Int) = 0; omega) | omega
    · first | (show (0 : Int) = 0; omega) | omega
    · first | (show (1 : Int) = 0; omega) | omega
  · intro c hc hi hg
    have hn := nn4 hc
    by_cases h0 : 1 < gl c 0
    · refine ⟨(⟨0, 0, 0, 3⟩ : Q4), by simp, (by show 1 < gl c 0; omega), ?_⟩
      have e := f4_0003 hc.len
      try dsimp only
      omega
    by_cases h1 : 0 < gl c 0 ∧ 0 < gl c 1
    · refine ⟨(⟨0, 1, 1, 2⟩ : Q4), by simp, (by show 0 < gl c 0 ∧ 0 < gl c 1; omega), ?_⟩
      have e := f4_0112 hc.len
      try dsimp only
      omega
    by_cases h2 : 1 < gl c 1
    · refine ⟨(⟨1, 1, 0, 3⟩ : Q4), by simp, (by show 1 < gl c 1; omega), ?_⟩
      have e := f4_1103 hc.len
      try dsimp only
      omega
    by_cases h3 : 0 < gl c 1 ∧ 0 < gl c 3
    · refine ⟨(⟨1, 3, 1, 2⟩ : Q4), by simp, (by show 0 < gl c 1 ∧ 0 < gl c 3; omega), ?_⟩
      have e := f4_1312 hc.len
      try dsimp only
      omega
    exfalso
    omega
theorem le20_1  {c : List Int} (hc : CrOk 4 c) (hi : 1 ≤ gl c 0 + gl c 1 ∧ (0 * gl c 0 + 1 * gl c 1) % 2 = 0) : DeciC [⟨0, 0, 0, 3⟩, ⟨0, 1, 1, 2⟩, ⟨0, 2, 0, 3⟩, ⟨1, 1, 0, 3⟩, ⟨1, 3, 1, 2⟩] [1, 0, 0, 1] 1 c := by
  refine dec_of (n := 4) (by decide) (fun c => 1 ≤ gl c 0 + gl c 1 ∧ (0 * gl c 0 + 1 * gl c 1) % 2 = 0) (fun c => gl c 0 + gl c 1 = 1 ∧ gl c 2 = 0) (fun c => (10 * (gl c 0 + gl c 1) + gl c 2).toNat) ?_ ?_ ?_ ?_ hc hi
  · intro c r hc hi hr ha
    have hn := nz4 hc
    simp only [List.mem_cons, List.not_mem_nil, or_false] at hr
    rcases hr with rfl | rfl | rfl | rfl | rfl
    · have e := f4_0003 hc.len; have ha : 1 < gl c 0 := ha; omega
    · have e := f4_0112 hc.len; have ha : 0 < gl c 0 ∧ 0 < gl c 1 := ha; omega
    · have e := f4_0203 hc.len; have ha : 0 < gl c 0 ∧ 0 < gl c 2 := ha; omega
    · have e := f4_1103 hc.len; have ha : 1 < gl c 1 := ha; omega
    · have e := f4_1312 hc.len; have ha : 0 < gl c 1 ∧ 0 < gl c 3 := ha; omega
  · intro c r hc hi hg hr ha
    have hn := nz4 hc
    simp only [List.mem_cons, List.not_mem_nil, or_false] at hr
    rcases hr with rfl | rfl | rfl | rfl | rfl
    · have e := f4_0003 hc.len; have ha : 1 < gl c 0 := ha; omega
    · have e := f4_0112 hc.len; have ha : 0 < gl c 0 ∧ 0 < gl c 1 := ha; omega
    · have e := f4_0203 hc.len; have ha : 0 < gl c 0 ∧ 0 < gl c 2 := ha; omega
    · have e := f4_1103 hc.len; have ha : 1 < gl c 1 := ha; omega
    · have e := f4_1312 hc.len; have ha : 0 < gl c 1 ∧ 0 < gl c 3 := ha; omega
  · intro c hc hi hg s hs0 hp
    have hn := nn4 hc
    have hsl : s < 4 := hs0
    have : s = 0 ∨ s = 1 ∨ s = 2 ∨ s = 3 := by omega
    rcases this with rfl | rfl | rfl | rfl
    · first | (show (1 : Int) = 1; omega) | omega
    · first | (show (0 : Int) = 1; omega) | omega
    · first | (show (0 : Int) = 1; omega) | omega
    · first | (show (1 : Int) = 1; omega) | omega
  · intro c hc hi hg
    have hn := nn4 hc
    by_cases h0 : 1 < gl c 0
    · refine ⟨(⟨0, 0, 0, 3⟩ : Q4), by simp, (by show 1 < gl c 0; omega), ?_⟩
      have e := f4_0003 hc.len
      try dsimp only
      omega
    by_cases h1 : 0 < gl c 0 ∧ 0 < gl c 1
    · refine ⟨(⟨0, 1, 1, 2⟩ : Q4), by simp, (by show 0 < gl c 0 ∧ 0 < gl c 1; omega), ?_⟩
      have e := f4_0112 hc.len
      try dsimp only
      omega
    by_cases h2 : 1 < gl c 1
    · refine ⟨(⟨1, 1, 0, 3⟩ : Q4), by simp, (by show 1 < gl c 1; omega), ?_⟩
      have e := f4_1103 hc.len
      try dsimp only
      omega
    by_cases h3 : 0 < gl c 0 ∧ 0 < gl c 2
    · refine ⟨(⟨0, 2, 0, 3⟩ : Q4), by simp, (by show 0 < gl c 0 ∧ 0 < gl c 2; omega), ?_⟩
      have e := f4_0203 hc.len
      try dsimp only
      omega
    exfalso
    omega
theorem f4_0002 {c : List Int} (h : c.length = 4) : gl (after c (⟨0, 0, 0, 2⟩ : Q4)) 0 = gl c 0 - 1 - 1 + 1 + 0 ∧ gl (after c (⟨0, 0, 0, 2⟩ : Q4)) 1 = gl c 1 - 0 - 0 + 0 + 0 ∧ gl (after c (⟨0, 0, 0, 2⟩ : Q4)) 2 = gl c 2 - 0 - 0 + 0 + 1 ∧ gl (after c (⟨0, 0, 0, 2⟩ : Q4)) 3 = gl c 3 - 0 - 0 + 0 + 0 := ⟨gl_after h (by decide) 0, gl_after h (by decide) 1, gl_after h (by decide) 2, gl_after h (by decide) 3⟩
theorem f4_0113 {c : List Int} (h : c.length = 4) : gl (after c (⟨0, 1, 1, 3⟩ : Q4)) 0 = gl c 0 - 1 - 0 + 0 + 0 ∧ gl (after c (⟨0, 1, 1, 3⟩ : Q4)) 1 = gl c 1 - 0 - 1 + 1 + 0 ∧ gl (after c (⟨0, 1, 1, 3⟩ : Q4)) 2 = gl c 2 - 0 - 0 + 0 + 0 ∧ gl (after c (⟨0, 1, 1, 3⟩ : Q4)) 3 = gl c 3 - 0 - 0 + 0 + 1 := ⟨gl_after h (by decide) 0, gl_after h (by decide) 1, gl_after h (by decide) 2, gl_after h (by decide) 3⟩
theorem f4_0302 {c : List Int} (h : c.length = 4) : gl (after c (⟨0, 3, 0, 2⟩ : Q4)) 0 = gl c 0 - 1 - 0 + 1 + 0 ∧ gl (after c (⟨0, 3, 0, 2⟩ : Q4)) 1 = gl c 1 - 0 - 0 + 0 + 0 ∧ gl (after c (⟨0, 3, 0, 2⟩ : Q4)) 2 = gl c 2 - 0 - 0 + 0 + 1 ∧ gl (after c (⟨0, 3, 0, 2⟩ : Q4)) 3 = gl c 3 - 0 - 1 + 0 + 0 := ⟨gl_after h (by decide) 0, gl_after h (by decide) 1, gl_after h (by decide) 2, gl_after h (by decide) 3⟩
theorem f4_1102 {c : List Int} (h : c.length = 4) : gl (after c (⟨1, 1, 0, 2⟩ : Q4)) 0 = gl c 0 - 0 - 0 + 1 + 0 ∧ gl (after c (⟨1, 1, 0, 2⟩ : Q4)) 1 = gl c 1 - 1 - 1 + 0 + 0 ∧ gl (after c (⟨1, 1, 0, 2⟩ : Q4)) 2 = gl c 2 - 0 - 0 + 0 + 1 ∧ gl (after c (⟨1, 1, 0, 2⟩ : Q4)) 3 = gl c 3 - 0 - 0 + 0 + 0 := ⟨gl_after h (by decide) 0, gl_after h (by decide) 1, gl_after h (by decide) 2, gl_after h (by decide) 3⟩
theorem f4_1213 {c : List Int} (h : c.length = 4) : gl (after c (⟨1, 2, 1, 3⟩ : Q4)) 0 = gl c 0 - 0 - 0 + 0 + 0 ∧ gl (after c (⟨1, 2, 1, 3⟩ : Q4)) 1 = gl c 1 - 1 - 0 + 1 + 0 ∧ gl (after c (⟨1, 2, 1, 3⟩ : Q4)) 2 = gl c 2 - 0 - 1 + 0 + 0 ∧ gl (after c (⟨1, 2, 1, 3⟩ : Q4)) 3 = gl c 3 - 0 - 0 + 0 + 1 := ⟨gl_after h (by decide) 0, gl_after h (by decide) 1, gl_after h (by decide) 2, gl_after h (by decide) 3⟩
theorem le21_0  {c : List Int} (hc : CrOk 4 c) (hi : 1 ≤ gl c 0 + gl c 1 ∧ (0 * gl c 0 + 1 * gl c 1) % 2 ≠ 1) : DeciC [⟨0, 0, 0, 2⟩, ⟨0, 1, 1, 3⟩, ⟨0, 3, 0, 2⟩, ⟨1, 1, 0, 2⟩, ⟨1, 2, 1, 3⟩] [0, 1, 0, 1] 0 c := by
  refine dec_of (n := 4) (by decide) (fun c => 1 ≤ gl c 0 + gl c 1 ∧ (0 * gl c 0 + 1 * gl c 1) % 2 ≠ 1) (fun c => gl c 0 + gl c 1 = 1 ∧ gl c 3 = 0) (fun c => (10 * (gl c 0 + gl c 1) + gl c 3).toNat) ?_ ?_ ?_ ?_ hc hi
  · intro c r hc hi hr ha
    have hn := nz4 hc
    simp only [List.mem_cons, List.not_mem_nil, or_false] at hr
    rcases hr with rfl | rfl | rfl | rfl | rfl
    · have e := f4_0002 hc.len; have ha : 1 < gl c 0 := ha; omega
    · have e := f4_0113 hc.len; have ha : 0 < gl c 0 ∧ 0 < gl c 1 := ha; omega
    · have e := f4_0302 hc.len; have ha : 0 < gl c 0 ∧ 0 < gl c 3 := ha; omega
    · have e := f4_1102 hc.len; have ha : 1 < gl c 1 := ha; omega
    · have e := f4_1213 hc.len; have ha : 0 < gl c 1 ∧ 0 < gl c 2 := ha; omega
  · intro c r hc hi hg hr ha
    have hn := nz4 hc
    simp only [List.mem_cons, List.not_mem_nil, or_false] at hr
    rcases hr with rfl | rfl | rfl | rfl | rfl
    · have e := f4_0002 hc.len; have ha : 1 < gl c 0 := ha; omega
    · have e := f4_0113 hc.len; have ha : 0 < gl c 0 ∧ 0 < gl c 1 := ha; omega
    · have e := f4_0302 hc.len; have ha : 0 < gl c 0 ∧ 0 < gl c 3 := ha; omega
    · have e := f4_1102 hc.len; have ha : 1 < gl c 1 := ha; omega
    · have e := f4_1213 hc.len; have ha : 0 < gl c 1 ∧ 0 < gl c 2 := ha; omega
  · intro c hc hi hg s hs0 hp
    have hn := nn4 hc
    have hsl : s < 4 := hs0
    have : s = 0 ∨ s = 1 ∨ s = 2 ∨ s = 3 := by omega
    rcases this with rfl | rfl | rfl | rfl
    · first | (show (0 : Int) = 0; omega) | omega
    · first | (show (1 : Int) = 0; omega) | omega
    · first | (show (0 : Int) = 0; omega) | omega
    · first | (show (1 : Int) = 0; omega) | omega
  · intro c hc hi hg
    have hn := nn4 hc
    by_cases h0 : 1 < gl c 0
    · refine ⟨(⟨0, 0, 0, 2⟩ : Q4), by simp, (by show 1 < gl c 0; omega), ?_⟩
      have e := f4_0002 hc.len
      try dsimp only
      omega
    by_cases h1 : 0 < gl c 0 ∧ 0 < gl c 1
    · refine ⟨(⟨0, 1, 1, 3⟩ : Q4), by simp, (by show 0 < gl c 0 ∧ 0 < gl c 1; omega), ?_⟩
      have e := f4_0113 hc.len
      try dsimp only
      omega
    by_cases h2 : 1 < gl c 1
    · refine ⟨(⟨1, 1, 0, 2⟩ : Q4), by simp, (by show 1 < gl c 1; omega), ?_⟩
      have e := f4_1102 hc.len
      try dsimp only
      omega
    by_cases h3 : 0 < gl c 0 ∧ 0 < gl c 3
    · refine ⟨(⟨0, 3, 0, 2⟩ : Q4), by simp, (by show 0 < gl c 0 ∧ 0 < gl c 3; omega), ?_⟩
      have e := f4_0302 hc.len
      try dsimp only
      omega
    exfalso
    omega
theorem le21_1  {c : List Int} (hc : CrOk 4 c) (hi : 1 ≤ gl c 0 + gl c 1 ∧ (0 * gl c 0 + 1 * gl c 1) % 2 = 1) : DeciC [⟨0, 0, 0, 2⟩, ⟨0, 1, 1, 3⟩, ⟨0, 3, 0, 2⟩, ⟨1, 1, 0, 2⟩, ⟨1, 2, 1, 3⟩] [0, 1, 0, 1] 1 c := by
  refine dec_of (n := 4) (by decide) (fun c => 1 ≤ gl c 0 + gl c 1 ∧ (0 * gl c 0 + 1 * gl c 1) % 2 = 1) (fun c => gl c 0 + gl c 1 = 1 ∧ gl c 2 = 0) (fun c => (10 * (gl c 0 + gl c 1) + gl c 2).toNat) ?_ ?_ ?_ ?_ hc hi
  · intro c r hc hi hr ha
    have hn := nz4 hc
    simp only [List.mem_cons, List.not_mem_nil, or_false] at hr
    rcases hr with rfl | rfl | rfl | rfl | rfl
    · have e := f4_0002 hc.len; have ha : 1 < gl c 0 := ha; omega
    · have e := f4_0113 hc.len; have ha : 0 < gl c 0 ∧ 0 < gl c 1 := ha; omega
    · have e := f4_0302 hc.len; have ha : 0 < gl c 0 ∧ 0 < gl c 3 := ha; omega
    · have e := f4_1102 hc.len; have ha : 1 < gl c 1 := ha; omega
    · have e := f4_1213 hc.len; have ha : 0 < gl c 1 ∧ 0 < gl c 2 := ha; omega
  · intro c r hc hi hg hr ha
    have hn := nz4 hc
    simp only [List.mem_cons, List.not_mem_nil, or_false] at hr
    rcases hr with rfl | rfl | rfl | rfl | rfl
    · have e := f4_0002 hc.len; have ha : 1 < gl c 0 := ha; omega
    · have e := f4_0113 hc.len; have ha : 0 < gl c 0 ∧ 0 < gl c 1 := ha; omega
    · have e := f4_0302 hc.len; have ha : 0 < gl c 0 ∧ 0 < gl c 3 := ha; omega
    · have e := f4_1102 hc.len; have ha : 1 < gl c 1 := ha; omega
    · have e := f4_1213 hc.len; have ha : 0 < gl c 1 ∧ 0 < gl c 2 := ha; omega
  · intro c hc hi hg s hs0 hp
    have hn := nn4 hc
    have hsl : s < 4 := hs0
    have : s = 0 ∨ s = 1 ∨ s = 2 ∨ s = 3 := by omega
    rcases this with rfl | rfl | rfl | rfl
    · first | (show (0 : Int) = 1; omega) | omega
    · first | (show (1 : Int) = 1; omega) | omega
    · first | (show (0 : Int) = 1; omega) | omega
    · first | (show (1 : Int) = 1; omega) | omega
  · intro c hc hi hg
    have hn := nn4 hc
    by_cases h0 : 1 < gl c 0
    · refine ⟨(⟨0, 0, 0, 2⟩ : Q4), by simp, (by show 1 < gl c 0; omega), ?_⟩
      have e := f4_0002 hc.len
      try dsimp only
      omega
    by_cases h1 : 0 < gl c 0 ∧ 0 < gl c 1
    · refine ⟨(⟨0, 1, 1, 3⟩ : Q4), by simp, (by show 0 < gl c 0 ∧ 0 < gl c 1; omega), ?_⟩
      have e := f4_0113 hc.len
      try dsimp only
      omega
    by_cases h2 : 1 < gl c 1
    · refine ⟨(⟨1, 1, 0, 2⟩ : Q4), by simp, (by show 1 < gl c 1; omega), ?_⟩
      have e := f4_1102 hc.len
      try dsimp only
      omega
    by_cases h3 : 0 < gl c 1 ∧ 0 < gl c 2
    · refine ⟨(⟨1, 2, 1, 3⟩ : Q4), by simp, (by show 0 < gl c 1 ∧ 0 < gl c 2; omega), ?_⟩
      have e := f4_1213 hc.len
      try dsimp only
      omega
    exfalso
    omega
theorem f5_0004 {c : List Int} (h : c.length = 5) : gl (after c (⟨0, 0, 0, 4⟩ : Q4)) 0 = gl c 0 - 1 - 1 + 1 + 0 ∧ gl (after c (⟨0, 0, 0, 4⟩ : Q4)) 1 = gl c 1 - 0 - 0 + 0 + 0 ∧ gl (after c (⟨0, 0, 0, 4⟩ : Q4)) 2 = gl c 2 - 0 - 0 + 0 + 0 ∧ gl (after c (⟨0, 0, 0, 4⟩ : Q4)) 3 = gl c 3 - 0 - 0 + 0 + 0 ∧ gl (after c (⟨0, 0, 0, 4⟩ : Q4)) 4 = gl c 4 - 0 - 0 + 0 + 1 := ⟨gl_after h (by decide) 0, gl_after h (by decide) 1, gl_after h (by decide) 2, gl_after h (by decide) 3, gl_after h (by decide) 4⟩
theorem f5_0113 {c : List Int} (h : c.length = 5) : gl (after c (⟨0, 1, 1, 3⟩ : Q4)) 0 = gl c 0 - 1 - 0 + 0 + 0 ∧ gl (after c (⟨0, 1, 1, 3⟩ : Q4)) 1 = gl c 1 - 0 - 1 + 1 + 0 ∧ gl (after c (⟨0, 1, 1, 3⟩ : Q4)) 2 = gl c 2 - 0 - 0 + 0 + 0 ∧ gl (after c (⟨0, 1, 1, 3⟩ : Q4)) 3 = gl c 3 - 0 - 0 + 0 + 1 ∧ gl (after c (⟨0, 1, 1, 3⟩ : Q4)) 4 = gl c 4 - 0 - 0 + 0 + 0 := ⟨gl_after h (by decide) 0, gl_after h (by decide) 1, gl_after h (by decide) 2, gl_after h (by decide) 3, gl_after h (by decide) 4⟩
theorem f5_0223 {c : List Int} (h : c.length = 5) : gl (after c (⟨0, 2, 2, 3⟩ : Q4)) 0 = gl c 0 - 1 - 0 + 0 + 0 ∧ gl (after c (⟨0, 2, 2, 3⟩ : Q4)) 1 = gl c 1 - 0 - 0 + 0 + 0 ∧ gl (after c (⟨0, 2, 2, 3⟩ : Q4)) 2 = gl c 2 - 0 - 1 + 1 + 0 ∧ gl (after c (⟨0, 2, 2, 3⟩ : Q4)) 3 = gl c 3 - 0 - 0 + 0 + 1 ∧ gl (after c (⟨0, 2, 2, 3⟩ : Q4)) 4 = gl c 4 - 0 - 0 + 0 + 0 := ⟨gl_after h (by decide) 0, gl_after h (by decide) 1, gl_after h (by decide) 2, gl_after h (by decide) 3, gl_after h (by decide) 4⟩
theorem f5_0304 {c : List Int} (h : c.length = 5) : gl (after c (⟨0, 3, 0, 4⟩ : Q4)) 0 = gl c 0 - 1 - 0 + 1 + 0 ∧ gl (after c (⟨0, 3, 0, 4⟩ : Q4)) 1 = gl c 1 - 0 - 0 + 0 + 0 ∧ gl (after c (⟨0, 3, 0, 4⟩ : Q4)) 2 = gl c 2 - 0 - 0 + 0 + 0 ∧ gl (after c (⟨0, 3, 0, 4⟩ : Q4)) 3 = gl c 3 - 0 - 1 + 0 + 0 ∧ gl (after c (⟨0, 3, 0, 4⟩ : Q4)) 4 = gl c 4 - 0 - 0 + 0 + 1 := ⟨gl_after h (by decide) 0, gl_after h (by decide) 1, gl_after h (by decide) 2, gl_after h (by decide) 3, gl_after h (by decide) 4⟩
theorem f5_1123 {c : List Int} (h : c.length = 5) : gl (after c (⟨1, 1, 2, 3⟩ : Q4)) 0 = gl c 0 - 0 - 0 + 0 + 0 ∧ gl (after c (⟨1, 1, 2, 3⟩ : Q4)) 1 = gl c 1 - 1 - 1 + 0 + 0 ∧ gl (after c (⟨1, 1, 2, 3⟩ : Q4)) 2 = gl c 2 - 0 - 0 + 1 + 0 ∧ gl (after c (⟨1, 1, 2, 3⟩ : Q4)) 3 = gl c 3 - 0 - 0 + 0 + 1 ∧ gl (after c (⟨1, 1, 2, 3⟩ : Q4)) 4 = gl c 4 - 0 - 0 + 0 + 0 := ⟨gl_after h (by decide) 0, gl_after h (by decide) 1, gl_after h (by decide) 2, gl_after h (by decide) 3, gl_after h (by decide) 4⟩
theorem f5_1204 {c : List Int} (h : c.length = 5) : gl (after c (⟨1, 2, 0, 4⟩ : Q4)) 0 = gl c 0 - 0 - 0 + 1 + 0 ∧ gl (after c (⟨1, 2, 0, 4⟩ : Q4)) 1 = gl c 1 - 1 - 0 + 0 + 0 ∧ gl (after c (⟨1, 2, 0, 4⟩ : Q4)) 2 = gl c 2 - 0 - 1 + 0 + 0 ∧ gl (after c (⟨1, 2, 0, 4⟩ : Q4)) 3 = gl c 3 - 0 - 0 + 0 + 0 ∧ gl (after c (⟨1, 2, 0, 4⟩ : Q4)) 4 = gl c 4 - 0 - 0 + 0 + 1 := ⟨gl_after h (by decide) 0, gl_after h (by decide) 1, gl_after h (by decide) 2, gl_after h (by decide) 3, gl_after h (by decide) 4⟩
theorem f5_1413 {c : List Int} (h : c.length = 5) : gl (after c (⟨1, 4, 1, 3⟩ : Q4)) 0 = gl c 0 - 0 - 0 + 0 + 0 ∧ gl (after c (⟨1, 4, 1, 3⟩ : Q4)) 1 = gl c 1 - 1 - 0 + 1 + 0 ∧ gl (after c (⟨1, 4, 1, 3⟩ : Q4)) 2 = gl c 2 - 0 - 0 + 0 + 0 ∧ gl (after c (⟨1, 4, 1, 3⟩ : Q4)) 3 = gl c 3 - 0 - 0 + 0 + 1 ∧ gl (after c (⟨1, 4, 1, 3⟩ : Q4)) 4 = gl c 4 - 0 - 1 + 0 + 0 := ⟨gl_after h (by decide) 0, gl_after h (by decide) 1, gl_after h (by decide) 2, gl_after h (by decide) 3, gl_after h (by decide) 4⟩
theorem f5_2213 {c : List Int} (h : c.length = 5) : gl (after c (⟨2, 2, 1, 3⟩ : Q4)) 0 = gl c 0 - 0 - 0 + 0 + 0 ∧ gl (after c (⟨2, 2, 1, 3⟩ : Q4)) 1 = gl c 1 - 0 - 0 + 1 + 0 ∧ gl (after c (⟨2, 2, 1, 3⟩ : Q4)) 2 = gl c 2 - 1 - 1 + 0 + 0 ∧ gl (after c (⟨2, 2, 1, 3⟩ : Q4)) 3 = gl c 3 - 0 - 0 + 0 + 1 ∧ gl (after c (⟨2, 2, 1, 3⟩ : Q4)) 4 = gl c 4 - 0 - 0 + 0 + 0 := ⟨gl_after h (by decide) 0, gl_after h (by decide) 1, gl_after h (by decide) 2, gl_after h (by decide) 3, gl_after h (by decide) 4⟩
theorem f5_2423 {c : List Int} (h : c.length = 5) : gl (after c (⟨2, 4, 2, 3⟩ : Q4)) 0 = gl c 0 - 0 - 0 + 0 + 0 ∧ gl (after c (⟨2, 4, 2, 3⟩ : Q4)) 1 = gl c 1 - 0 - 0 + 0 + 0 ∧ gl (after c (⟨2, 4, 2, 3⟩ : Q4)) 2 = gl c 2 - 1 - 0 + 1 + 0 ∧ gl (after c (⟨2, 4, 2, 3⟩ : Q4)) 3 = gl c 3 - 0 - 0 + 0 + 1 ∧ gl (after c (⟨2, 4, 2, 3⟩ : Q4)) 4 = gl c 4 - 0 - 1 + 0 + 0 := ⟨gl_after h (by decide) 0, gl_after h (by decide) 1, gl_after h (by decide) 2, gl_after h (by decide) 3, gl_after h (by decide) 4⟩
theorem le30_0  {c : List Int} (hc : CrOk 5 c) (hi : 1 ≤ gl c 0 + gl c 1 + gl c 2 ∧ (0 * gl c 0 + 1 * gl c 1 + 2 * gl c 2) % 3 ≠ 0) : DeciC [⟨0, 0, 0, 4⟩, ⟨0, 1, 1, 3⟩, ⟨0, 2, 2, 3⟩, ⟨0, 3, 0, 4⟩, ⟨1, 1, 2, 3⟩, ⟨1, 2, 0, 4⟩, ⟨1, 4, 1, 3⟩, ⟨2, 2, 1, 3⟩, ⟨2, 4, 2, 3⟩] [1, 0, 0, 0, 1] 0 c := by
  refine dec_of (n := 5) (by decide) (fun c => 1 ≤ gl c 0 + gl c 1 + gl c 2 ∧ (0 * gl c 0 + 1 * gl c 1 + 2 * gl c 2) % 3 ≠ 0) (fun c => gl c 0 + gl c 1 + gl c 2 = 1 ∧ gl c 4 = 0) (fun c => (10 * (gl c 0 + gl c 1 + gl c 2) + gl c 4).toNat) ?_ ?_ ?_ ?_ hc hi
  · intro c r hc hi hr ha
    have hn := nz5 hc
    simp only [List.mem_cons, List.not_mem_nil, or_false] at hr
    rcases hr with rfl | rfl | rfl | rfl | rfl | rfl | rfl | rfl | rfl
    · have e := f5_0004 hc.len; have ha : 1 < gl c 0 := ha; omega
    · have e := f5_0113 hc.len; have ha : 0 < gl c 0 ∧ 0 < gl c 1 := ha; omega
    · have e := f5_0223 hc.len; have ha : 0 < gl c 0 ∧ 0 < gl c 2 := ha; omega
    · have e := f5_0304 hc.len; have ha : 0 < gl c 0 ∧ 0 < gl c 3 := ha; omega
    · have e := f5_1123 hc.len; have ha : 1 < gl c 1 := ha; omega
    · have e := f5_1204 hc.len; have ha : 0 < gl c 1 ∧ 0 < gl c 2 := ha; omega
    · have e := f5_1413 hc.len; have ha : 0 < gl c 1 ∧ 0 < gl c 4 := ha; omega
    · have e := f5_2213 hc.len; have ha : 1 < gl c 2 := ha; omega
    · have e := f5_2423 hc.len; have ha : 0 < gl c 2 ∧ 0 < gl c 4 := ha; omega
  · intro c r hc hi hg hr ha
    have hn := nz5 hc
    simp only [List.mem_cons, List.not_mem_nil, or_false] at hr
    rcases hr with rfl | rfl | rfl | rfl | rfl | rfl | rfl | rfl | rfl
    · have e := f5_0004 hc.len; have ha : 1 < gl c 0 := ha; omega
    · have e := f5_0113 hc.len; have ha : 0 < gl c 0 ∧ 0 < gl c 1 := ha; omega
    · have e := f5_0223 hc.len; have ha : 0 < gl c 0 ∧ 0 < gl c 2 := ha; omega
    · have e := f5_0304 hc.len; have ha : 0 < gl c 0 ∧ 0 < gl c 3 := ha; omega
    · have e := f5_1123 hc.len; have ha : 1 < gl c 1 := ha; omega
    · have e := f5_1204 hc.len; have ha : 0 < gl c 1 ∧ 0 < gl c 2 := ha; omega
    · have e := f5_1413 hc.len; have ha : 0 < gl c 1 ∧ 0 < gl c 4 := ha; omega
    · have e := f5_2213 hc.len; have ha : 1 < gl c 2 := ha; omega
    · have e := f5_2423 hc.len; have ha : 0 < gl c 2 ∧ 0 < gl c 4 := ha; omega
  · intro c hc hi hg s hs0 hp
    have hn := nn5 hc
    have hsl : s < 5 := hs0
    have : s = 0 ∨ s = 1 ∨ s = 2 ∨ s = 3 ∨ s = 4 := by omega
    rcases this with rfl | rfl | rfl | rfl | rfl
    · first | (show (1 : Int) = 0; omega) | omega
    · first | (show (0 : Int) = 0; omega) | omega
    · first | (show (0 : Int) = 0; omega) | omega
    · first | (show (0 : Int) = 0; omega) | omega
    · first | (show (1 : Int) = 0; omega) | omega
  · intro c hc hi hg
    have hn := nn5 hc
    by_cases h0 : 1 < gl c 0
    · refine ⟨(⟨0, 0, 0, 4⟩ : Q4), by simp, (by show 1 < gl c 0; omega), ?_⟩
      have e := f5_0004 hc.len
      try dsimp only
      omega
    by_cases h1 : 0 < gl c 0 ∧ 0 < gl c 1
    · refine ⟨(⟨0, 1, 1, 3⟩ : Q4), by simp, (by show 0 < gl c 0 ∧ 0 < gl c 1; omega), ?_⟩
      have e := f5_0113 hc.len
      try dsimp only
      omega
    by_cases h2 : 0 < gl c 0 ∧ 0 < gl c 2
    · refine ⟨(⟨0, 2, 2, 3⟩ : Q4), by simp, (by show 0 < gl c 0 ∧ 0 < gl c 2; omega), ?_⟩
      have e := f5_0223 hc.len
      try dsimp only
      omega
    by_cases h3 : 1 < gl c 1
    · refine ⟨(⟨1, 1, 2, 3⟩ : Q4), by simp, (by show 1 < gl c 1; omega), ?_⟩
      have e := f5_1123 hc.len
      try dsimp only
      omega
    by_cases h4 : 0 < gl c 1 ∧ 0 < gl c 2
    · refine ⟨(⟨1, 2, 0, 4⟩ : Q4), by simp, (by show 0 < gl c 1 ∧ 0 < gl c 2; omega), ?_⟩
      have e := f5_1204 hc.len
      try dsimp only
      omega
    by_cases h5 : 1 < gl c 2
    · refine ⟨(⟨2, 2, 1, 3⟩ : Q4), by simp, (by show 1 < gl c 2; omega), ?_⟩
      have e := f5_2213 hc.len
      try dsimp only
      omega
    by_cases h6 : 0 < gl c 1 ∧ 0 < gl c 4
    · refine ⟨(⟨1, 4, 1, 3⟩ : Q4), by simp, (by show 0 < gl c 1 ∧ 0 < gl c 4; omega), ?_⟩
      have e := f5_1413 hc.len
      try dsimp only
      omega
    by_cases h7 : 0 < gl c 2 ∧ 0 < gl c 4
    · refine ⟨(⟨2, 4, 2, 3⟩ : Q4), by simp, (by show 0 < gl c 2 ∧ 0 < gl c 4; omega), ?_⟩
      have e := f5_2423 hc.len
      try dsimp only
      omega
    exfalso
    omega
theorem le30_1  {c : List Int} (hc : CrOk 5 c) (hi : 1 ≤ gl c 0 + gl c 1 + gl c 2 ∧ (0 * gl c 0 + 1 * gl c 1 + 2 * gl c 2) % 3 = 0) : DeciC [⟨0, 0, 0, 4⟩, ⟨0, 1, 1, 3⟩, ⟨0, 2, 2, 3⟩, ⟨0, 3, 0, 4⟩, ⟨1, 1, 2, 3⟩, ⟨1, 2, 0, 4⟩, ⟨1, 4, 1, 3⟩, ⟨2, 2, 1, 3⟩, ⟨2, 4, 2, 3⟩] [1, 0, 0, 0, 1] 1 c := by
  refine dec_of (n := 5) (by decide) (fun c => 1 ≤ gl c 0 + gl c 1 + gl c 2 ∧ (0 * gl c 0 + 1 * gl c 1 + 2 * gl c 2) % 3 = 0) (fun c => gl c 0 + gl c 1 + gl c 2 = 1 ∧ gl c 3 = 0) (fun c => (10 * (gl c 0 + gl c 1 + gl c 2) + gl c 3).toNat) ?_ ?_ ?_ ?_ hc hi
  · intro c r hc hi hr ha
    have hn := nz5 hc
    simp only [List.mem_cons, List.not_mem_nil, or_false] at hr
    rcases hr with rfl | rfl | rfl | rfl | rfl | rfl | rfl | rfl | rfl
    · have e := f5_0004 hc.len; have ha : 1 < gl c 0 := ha; omega
    · have e := f5_0113 hc.len; have ha : 0 < gl c 0 ∧ 0 < gl c 1 := ha; omega
    · have e := f5_0223 hc.len; have ha : 0 < gl c 0 ∧ 0 < gl c 2 := ha; omega
    · have e := f5_0304 hc.len; have ha : 0 < gl c 0 ∧ 0 < gl c 3 := ha; omega
    · have e := f5_1123 hc.len; have ha : 1 < gl c 1 := ha; omega
    · have e := f5_1204 hc.len; have ha : 0 < gl c 1 ∧ 0 < gl c 2 := ha; omega
    · have e := f5_1413 hc.len; have ha : 0 < gl c 1 ∧ 0 < gl c 4 := ha; omega
    · have e := f5_2213 hc.len; have ha : 1 < gl c 2 := ha; omega
    · have e := f5_2423 hc.len; have ha : 0 < gl c 2 ∧ 0 < gl c 4 := ha; omega
  · intro c r hc hi hg hr ha
    have hn := nz5 hc
    simp only [List.mem_cons, List.not_mem_nil, or_false] at hr
    rcases hr with rfl | rfl | rfl | rfl | rfl | rfl | rfl | rfl | rfl
    · have e := f5_0004 hc.len; have ha : 1 < gl c 0 := ha; omega
    · have e := f5_0113 hc.len; have ha : 0 < gl c 0 ∧ 0 < gl c 1 := ha; omega
    · have e := f5_0223 hc.len; have ha : 0 < gl c 0 ∧ 0 < gl c 2 := ha; omega
    · have e := f5_0304 hc.len; have ha : 0 < gl c 0 ∧ 0 < gl c 3 := ha; omega
    · have e := f5_1123 hc.len; have ha : 1 < gl c 1 := ha; omega
    · have e := f5_1204 hc.len; have ha : 0 < gl c 1 ∧ 0 < gl c 2 := ha; omega
    · have e := f5_1413 hc.len; have ha : 0 < gl c 1 ∧ 0 < gl c 4 := ha; omega
    · have e := f5_2213 hc.len; have ha : 1 < gl c 2 := ha; omega
    · have e := f5_2423 hc.len; have ha : 0 < gl c 2 ∧ 0 < gl c 4 := ha; omega
  · intro c hc hi hg s hs0 hp
    have hn := nn5 hc
    have hsl : s < 5 := hs0
    have : s = 0 ∨ s = 1 ∨ s = 2 ∨ s = 3 ∨ s = 4 := by omega
    rcases this with rfl | rfl | rfl | rfl | rfl
    · first | (show (1 : Int) = 1; omega) | omega
    · first | (show (0 : Int) = 1; omega) | omega
    · first | (show (0 : Int) = 1; omega) | omega
    · first | (show (0 : Int) = 1; omega) | omega
    · first | (show (1 : Int) = 1; omega) | omega
  · intro c hc hi hg
    have hn := nn5 hc
    by_cases h0 : 1 < gl c 0
    · refine ⟨(⟨0, 0, 0, 4⟩ : Q4), by simp, (by show 1 < gl c 0; omega), ?_⟩
      have e := f5_0004 hc.len
      try dsimp only
      omega
    by_cases h1 : 0 < gl c 0 ∧ 0 < gl c 1
    · refine ⟨(⟨0, 1, 1, 3⟩ : Q4), by simp, (by show 0 < gl c 0 ∧ 0 < gl c 1; omega), ?_⟩
      have e := f5_0113 hc.len
      try dsimp only
      omega
    by_cases h2 : 0 < gl c 0 ∧ 0 < gl c 2
    · refine ⟨(⟨0, 2, 2, 3⟩ : Q4), by simp, (by show 0 < gl c 0 ∧ 0 < gl c 2; omega), ?_⟩
      have e := f5_0223 hc.len
      try dsimp only
      omega
    by_cases h3 : 1 < gl c 1
    · refine ⟨(⟨1, 1, 2, 3⟩ : Q4), by simp, (by show 1 < gl c 1; omega), ?_⟩
      have e := f5_1123 hc.len
      try dsimp only
      omega
    by_cases h4 : 0 < gl c 1 ∧ 0 < gl c 2
    · refine ⟨(⟨1, 2, 0, 4⟩ : Q4), by simp, (by show 0 < gl c 1 ∧ 0 < gl c 2; omega), ?_⟩
      have e := f5_1204 hc.len
      try dsimp only
      omega
    by_cases h5 : 1 < gl c 2
    · refine ⟨(⟨2, 2, 1, 3⟩ : Q4), by simp, (by show 1 < gl c 2; omega), ?_⟩
      have e := f5_2213 hc.len
      try dsimp only
      omega
    by_cases h6 : 0 < gl c 0 ∧ 0 < gl c 3
    · refine ⟨(⟨0, 3, 0, 4⟩ : Q4), by simp, (by show 0 < gl c 0 ∧ 0 < gl c 3; omega), ?_⟩
      have e := f5_0304 hc.len
      try dsimp only
      omega
    exfalso
    omega
theorem f5_0003 {c : List Int} (h : c.length = 5) : gl (after c (⟨0, 0, 0, 3⟩ : Q4)) 0 = gl c 0 - 1 - 1 + 1 + 0 ∧ gl (after c (⟨0, 0, 0, 3⟩ : Q4)) 1 = gl c 1 - 0 - 0 + 0 + 0 ∧ gl (after c (⟨0, 0, 0, 3⟩ : Q4)) 2 = gl c 2 - 0 - 0 + 0 + 0 ∧ gl (after c (⟨0, 0, 0, 3⟩ : Q4)) 3 = gl c 3 - 0 - 0 + 0 + 1 ∧ gl (after c (⟨0, 0, 0, 3⟩ : Q4)) 4 = gl c 4 - 0 - 0 + 0 + 0 := ⟨gl_after h (by decide) 0, gl_after h (by decide) 1, gl_after h (by decide) 2, gl_after h (by decide) 3, gl_after h (by decide) 4⟩
theorem f5_0114 {c : List Int} (h : c.length = 5) : gl (after c (⟨0, 1, 1, 4⟩ : Q4)) 0 = gl c 0 - 1 - 0 + 0 + 0 ∧ gl (after c (⟨0, 1, 1, 4⟩ : Q4)) 1 = gl c 1 - 0 - 1 + 1 + 0 ∧ gl (after c (⟨0, 1, 1, 4⟩ : Q4)) 2 = gl c 2 - 0 - 0 + 0 + 0 ∧ gl (after c (⟨0, 1, 1, 4⟩ : Q4)) 3 = gl c 3 - 0 - 0 + 0 + 0 ∧ gl (after c (⟨0, 1, 1, 4⟩ : Q4)) 4 = gl c 4 - 0 - 0 + 0 + 1 := ⟨gl_after h (by decide) 0, gl_after h (by decide) 1, gl_after h (by decide) 2, gl_after h (by decide) 3, gl_after h (by decide) 4⟩
theorem f5_0403 {c : List Int} (h : c.length = 5) : gl (after c (⟨0, 4, 0, 3⟩ : Q4)) 0 = gl c 0 - 1 - 0 + 1 + 0 ∧ gl (after c (⟨0, 4, 0, 3⟩ : Q4)) 1 = gl c 1 - 0 - 0 + 0 + 0 ∧ gl (after c (⟨0, 4, 0, 3⟩ : Q4)) 2 = gl c 2 - 0 - 0 + 0 + 0 ∧ gl (after c (⟨0, 4, 0, 3⟩ : Q4)) 3 = gl c 3 - 0 - 0 + 0 + 1 ∧ gl (after c (⟨0, 4, 0, 3⟩ : Q4)) 4 = gl c 4 - 0 - 1 + 0 + 0 := ⟨gl_after h (by decide) 0, gl_after h (by decide) 1, gl_after h (by decide) 2, gl_after h (by decide) 3, gl_after h (by decide) 4⟩
theorem f5_1203 {c : List Int} (h : c.length = 5) : gl (after c (⟨1, 2, 0, 3⟩ : Q4)) 0 = gl c 0 - 0 - 0 + 1 + 0 ∧ gl (after c (⟨1, 2, 0, 3⟩ : Q4)) 1 = gl c 1 - 1 - 0 + 0 + 0 ∧ gl (after c (⟨1, 2, 0, 3⟩ : Q4)) 2 = gl c 2 - 0 - 1 + 0 + 0 ∧ gl (after c (⟨1, 2, 0, 3⟩ : Q4)) 3 = gl c 3 - 0 - 0 + 0 + 1 ∧ gl (after c (⟨1, 2, 0, 3⟩ : Q4)) 4 = gl c 4 - 0 - 0 + 0 + 0 := ⟨gl_after h (by decide) 0, gl_after h (by decide) 1, gl_after h (by decide) 2, gl_after h (by decide) 3, gl_after h (by decide) 4⟩
theorem f5_1314 {c : List Int} (h : c.length = 5) : gl (after c (⟨1, 3, 1, 4⟩ : Q4)) 0 = gl c 0 - 0 - 0 + 0 + 0 ∧ gl (after c (⟨1, 3, 1, 4⟩ : Q4)) 1 = gl c 1 - 1 - 0 + 1 + 0 ∧ gl (after c (⟨1, 3, 1, 4⟩ : Q4)) 2 = gl c 2 - 0 - 0 + 0 + 0 ∧ gl (after c (⟨1, 3, 1, 4⟩ : Q4)) 3 = gl c 3 - 0 - 1 + 0 + 0 ∧ gl (after c (⟨1, 3, 1, 4⟩ : Q4)) 4 = gl c 4 - 0 - 0 + 0 + 1 := ⟨gl_after h (by decide) 0, gl_after h (by decide) 1, gl_after h (by decide) 2, gl_after h (by decide) 3, gl_after h (by decide) 4⟩
theorem f5_2214 {c : List Int} (h : c.length = 5) : gl (after c (⟨2, 2, 1, 4⟩ : Q4)) 0 = gl c 0 - 0 - 0 + 0 + 0 ∧ gl (after c (⟨2, 2, 1, 4⟩ : Q4)) 1 = gl c 1 - 0 - 0 + 1 + 0 ∧ gl (after c (⟨2, 2, 1, 4⟩ : Q4)) 2 = gl c 2 - 1 - 1 + 0 + 0 ∧ gl (after c (⟨2, 2, 1, 4⟩ : Q4)) 3 = gl c 3 - 0 - 0 + 0 + 0 ∧ gl (after c (⟨2, 2, 1, 4⟩ : Q4)) 4 = gl c 4 - 0 - 0 + 0 + 1 := ⟨gl_after h (by decide) 0, gl_after h (by decide) 1, gl_after h (by decide) 2, gl_after h (by decide) 3, gl_after h (by decide) 4⟩
theorem le31_0  {c : List Int} (hc : CrOk 5 c) (hi : 1 ≤ gl c 0 + gl c 1 + gl c 2 ∧ (0 * gl c 0 + 1 * gl c 1 + 2 * gl c 2) % 3 ≠ 1) : DeciC [⟨0, 0, 0, 3⟩, ⟨0, 1, 1, 4⟩, ⟨0, 2, 2, 3⟩, ⟨0, 4, 0, 3⟩, ⟨1, 1, 2, 3⟩, ⟨1, 2, 0, 3⟩, ⟨1, 3, 1, 4⟩, ⟨2, 2, 1, 4⟩, ⟨2, 4, 2, 3⟩] [0, 1, 0, 0, 1] 0 c := by
  refine dec_of (n := 5) (by decide) (fun c => 1 ≤ gl c 0 + gl c 1 + gl c 2 ∧ (0 * gl c 0 + 1 * gl c 1 + 2 * gl c 2) % 3 ≠ 1) (fun c => gl c 0 + gl c 1 + gl c 2 = 1 ∧ gl c 4 = 0) (fun c => (10 * (gl c 0 + gl c 1 + gl c 2) + gl c 4).toNat) ?_ ?_ ?_ ?_ hc hi
  · intro c r hc hi hr ha
    have hn := nz5 hc
    simp only [List.mem_cons, List.not_mem_nil, or_false] at hr
    rcases hr with rfl | rfl | rfl | rfl | rfl | rfl | rfl | rfl | rfl
    · have e := f5_0003 hc.len; have ha : 1 < gl c 0 := ha; omega
    · have e := f5_0114 hc.len; have ha : 0 < gl c 0 ∧ 0 < gl c 1 := ha; omega
    · have e := f5_0223 hc.len; have ha : 0 < gl c 0 ∧ 0 < gl c 2 := ha; omega
    · have e := f5_0403 hc.len; have ha : 0 < gl c 0 ∧ 0 < gl c 4 := ha; omega
    · have e := f5_1123 hc.len; have ha : 1 < gl c 1 := ha; omega
    · have e := f5_1203 hc.len; have ha : 0 < gl c 1 ∧ 0 < gl c 2 := ha; omega
    · have e := f5_1314 hc.len; have ha : 0 < gl c 1 ∧ 0 < gl c 3 := ha; omega
    · have e := f5_2214 hc.len; have ha : 1 < gl c 2 := ha; omega
    · have e := f5_2423 hc.len; have ha : 0 < gl c 2 ∧ 0 < gl c 4 := ha; omega
  · intro c r hc hi hg hr ha
    have hn := nz5 hc
    simp only [List.mem_cons, List.not_mem_nil, or_false] at hr
    rcases hr with rfl | rfl | rfl | rfl | rfl | rfl | rfl | rfl | rfl
    · have e := f5_0003 hc.len; have ha : 1 < gl c 0 := ha; omega
    · have e := f5_0114 hc.len; have ha : 0 < gl c 0 ∧ 0 < gl c 1 := ha; omega
    · have e := f5_0223 hc.len; have ha : 0 < gl c 0 ∧ 0 < gl c 2 := ha; omega
    · have e := f5_0403 hc.len; have ha : 0 < gl c 0 ∧ 0 < gl c 4 := ha; omega
    · have e := f5_1123 hc.len; have ha : 1 < gl c 1 := ha; omega
    · have e := f5_1203 hc.len; have ha : 0 < gl c 1 ∧ 0 < gl c 2 := ha; omega
    · have e := f5_1314 hc.len; have ha : 0 < gl c 1 ∧ 0 < gl c 3 := ha; omega
    · have e := f5_2214 hc.len; have ha : 1 < gl c 2 := ha; omega
    · have e := f5_2423 hc.len; have ha : 0 < gl c 2 ∧ 0 < gl c 4 := ha; omega
  · intro c hc hi hg s hs0 hp
    have hn := nn5 hc
    have hsl : s < 5 := hs0
    have : s = 0 ∨ s = 1 ∨ s = 2 ∨ s = 3 ∨ s = 4 := by omega
    rcases this with rfl | rfl | rfl | rfl | rfl
    · first | (show (0 : Int) = 0; omega) | omega
    · first | (show (1 : Int) = 0; omega) | omega
    · first | (show (0 : Int) = 0; omega) | omega
    · first | (show (0 : Int) = 0; omega) | omega
    · first | (show (1 : Int) = 0; omega) | omega
  · intro c hc hi hg
    have hn := nn5 hc
    by_cases h0 : 1 < gl c 0
    · refine ⟨(⟨0, 0, 0, 3⟩ : Q4), by simp, (by show 1 < gl c 0; omega), ?_⟩
      have e := f5_0003 hc.len
      try dsimp only
      omega
    by_cases h1 : 0 < gl c 0 ∧ 0 < gl c 1
    · refine ⟨(⟨0, 1, 1, 4⟩ : Q4), by simp, (by show 0 < gl c 0 ∧ 0 < gl c 1; omega), ?_⟩
      have e := f5_0114 hc.len
      try dsimp only
      omega
    by_cases h2 : 0 < gl c 0 ∧ 0 < gl c 2
    · refine ⟨(⟨0, 2, 2, 3⟩ : Q4), by simp, (by show 0 < gl c 0 ∧ 0 < gl c 2; omega), ?_⟩
      have e := f5_0223 hc.len
      try dsimp only
      omega
    by_cases h3 : 1 < gl c 1
    · refine ⟨(⟨1, 1, 2, 3⟩ : Q4), by simp, (by show 1 < gl c 1; omega), ?_⟩
      have e := f5_1123 hc.len
      try dsimp only
      omega
    by_cases h4 : 0 < gl c 1 ∧ 0 < gl c 2
    · refine ⟨(⟨1, 2, 0, 3⟩ : Q4), by simp, (by show 0 < gl c 1 ∧ 0 < gl c 2; omega), ?_⟩
      have e := f5_1203 hc.len
      try dsimp only
      omega
    by_cases h5 : 1 < gl c 2
    · refine ⟨(⟨2, 2, 1, 4⟩ : Q4), by simp, (by show 1 < gl c 2; omega), ?_⟩
      have e := f5_2214 hc.len
      try dsimp only
      omega
    by_cases h6 : 0 < gl c 0 ∧ 0 < gl c 4
    · refine ⟨(⟨0, 4, 0, 3⟩ : Q4), by simp, (by show 0 < gl c 0 ∧ 0 < gl c 4; omega), ?_⟩
      have e := f5_0403 hc.len
      try dsimp only
      omega
    by_cases h7 : 0 < gl c 2 ∧ 0 < gl c 4
    · refine ⟨(⟨2, 4, 2, 3⟩ : Q4), by simp, (by show 0 < gl c 2 ∧ 0 < gl c 4; omega), ?_⟩
      have e := f5_2423 hc.len
      try dsimp only
      omega
    exfalso
    omega
theorem le31_1  {c : List Int} (hc : CrOk 5 c) (hi : 1 ≤ gl c 0 + gl c 1 + gl c 2 ∧ (0 * gl c 0 + 1 * gl c 1 + 2 * gl c 2) % 3 = 1) : DeciC [⟨0, 0, 0, 3⟩, ⟨0, 1, 1, 4⟩, ⟨0, 2, 2, 3⟩, ⟨0, 4, 0, 3⟩, ⟨1, 1, 2, 3⟩, ⟨1, 2, 0, 3⟩, ⟨1, 3, 1, 4⟩, ⟨2, 2, 1, 4⟩, ⟨2, 4, 2, 3⟩] [0, 1, 0, 0, 1] 1 c := by
  refine dec_of (n := 5) (by decide) (fun c => 1 ≤ gl c 0 + gl c 1 + gl c 2 ∧ (0 * gl c 0 + 1 * gl c 1 + 2 * gl c 2) % 3 = 1) (fun c => gl c 0 + gl c 1 + gl c 2 = 1 ∧ gl c 3 = 0) (fun c => (10 * (gl c 0 + gl c 1 + gl c 2) + gl c 3).toNat) ?_ ?_ ?_ ?_ hc hi
  · intro c r hc hi hr ha
    have hn := nz5 hc
    simp only [List.mem_cons, List.not_mem_nil, or_false] at hr
    rcases hr with rfl | rfl | rfl | rfl | rfl | rfl | rfl | rfl | rfl
    · have e := f5_0003 hc.len; have ha : 1 < gl c 0 := ha; omega
    · have e := f5_0114 hc.len; have ha : 0 < gl c 0 ∧ 0 < gl c 1 := ha; omega
    · have e := f5_0223 hc.len; have ha : 0 < gl c 0 ∧ 0 < gl c 2 := ha; omega
    · have e := f5_0403 hc.len; have ha : 0 < gl c 0 ∧ 0 < gl c 4 := ha; omega
    · have e := f5_1123 hc.len; have ha : 1 < gl c 1 := ha; omega
    · have e := f5_1203 hc.len; have ha : 0 < gl c 1 ∧ 0 < gl c 2 := ha; omega
    · have e := f5_1314 hc.len; have ha : 0 < gl c 1 ∧ 0 < gl c 3 := ha; omega
    · have e := f5_2214 hc.len; have ha : 1 < gl c 2 := ha; omega
    · have e := f5_2423 hc.len; have ha : 0 < gl c 2 ∧ 0 < gl c 4 := ha; omega
  · intro c r hc hi hg hr ha
    have hn := nz5 hc
    simp only [List.mem_cons, List.not_mem_nil, or_false] at hr
    rcases hr with rfl | rfl | rfl | rfl | rfl | rfl | rfl | rfl | rfl
    · have e := f5_0003 hc.len; have ha : 1 < gl c 0 := ha; omega
    · have e := f5_0114 hc.len; have ha : 0 < gl c 0 ∧ 0 < gl c 1 := ha; omega
    · have e := f5_0223 hc.len; have ha : 0 < gl c 0 ∧ 0 < gl c 2 := ha; omega
    · have e := f5_0403 hc.len; have ha : 0 < gl c 0 ∧ 0 < gl c 4 := ha; omega
    · have e := f5_1123 hc.len; have ha : 1 < gl c 1 := ha; omega
    · have e := f5_1203 hc.len; have ha : 0 < gl c 1 ∧ 0 < gl c 2 := ha; omega
    · have e := f5_1314 hc.len; have ha : 0 < gl c 1 ∧ 0 < gl c 3 := ha; omega
    · have e := f5_2214 hc.len; have ha : 1 < gl c 2 := ha; omega
    · have e := f5_2423 hc.len; have ha : 0 < gl c 2 ∧ 0 < gl c 4 := ha; omega
  · intro c hc hi hg s hs0 hp
    have hn := nn5 hc
    have hsl : s < 5 := hs0
    have : s = 0 ∨ s = 1 ∨ s = 2 ∨ s = 3 ∨ s = 4 := by omega
    rcases this with rfl | rfl | rfl | rfl | rfl
    · first | (show (0 : Int) = 1; omega) | omega
    · first | (show (1 : Int) = 1; omega) | omega
    · first | (show (0 : Int) = 1; omega) | omega
    · first | (show (0 : Int) = 1; omega) | omega
    · first | (show (1 : Int) = 1; omega) | omega
  · intro c hc hi hg
    have hn := nn5 hc
    by_cases h0 : 1 < gl c 0
    · refine ⟨(⟨0, 0, 0, 3⟩ : Q4), by simp, (by show 1 < gl c 0; omega), ?_⟩
      have e := f5_0003 hc.len
      try dsimp only
      omega
    by_cases h1 : 0 < gl c 0 ∧ 0 < gl c 1
    · refine ⟨(⟨0, 1, 1, 4⟩ : Q4), by simp, (by show 0 < gl c 0 ∧ 0 < gl c 1; omega), ?_⟩
      have e := f5_0114 hc.len
      try dsimp only
      omega
    by_cases h2 : 0 < gl c 0 ∧ 0 < gl c 2
    · refine ⟨(⟨0, 2, 2, 3⟩ : Q4), by simp, (by show 0 < gl c 0 ∧ 0 < gl c 2; omega), ?_⟩
      have e := f5_0223 hc.len
      try dsimp only
      omega
    by_cases h3 : 1 < gl c 1
    · refine ⟨(⟨1, 1, 2, 3⟩ : Q4), by simp, (by show 1 < gl c 1; omega), ?_⟩
      have e := f5_1123 hc.len
      try dsimp only
      omega
    by_cases h4 : 0 < gl c 1 ∧ 0 < gl c 2
    · refine ⟨(⟨1, 2, 0, 3⟩ : Q4), by simp, (by show 0 < gl c 1 ∧ 0 < gl c 2; omega), ?_⟩
      have e := f5_1203 hc.len
      try dsimp only
      omega
    by_cases h5 : 1 < gl c 2
    · refine ⟨(⟨2, 2, 1, 4⟩ : Q4), by simp, (by show 1 < gl c 2; omega), ?_⟩
      have e := f5_2214 hc.len
      try dsimp only
      omega
    by_cases h6 : 0 < gl c 1 ∧ 0 < gl c 3
    · refine ⟨(⟨1, 3, 1, 4⟩ : Q4), by simp, (by show 0 < gl c 1 ∧ 0 < gl c 3; omega), ?_⟩
      have e := f5_1314 hc.len
      try dsimp only
      omega
    exfalso
    omega
theorem f5_0224 {c : List Int} (h : c.length = 5) : gl (after c (⟨0, 2, 2, 4⟩ : Q4)) 0 = gl c 0 - 1 - 0 + 0 + 0 ∧ gl (after c (⟨0, 2, 2, 4⟩ : Q4)) 1 = gl c 1 - 0 - 0 + 0 + 0 ∧ gl (after c (⟨0, 2, 2, 4⟩ : Q4)) 2 = gl c 2 - 0 - 1 + 1 + 0 ∧ gl (after c (⟨0, 2, 2, 4⟩ : Q4)) 3 = gl c 3 - 0 - 0 + 0 + 0 ∧ gl (after c (⟨0, 2, 2, 4⟩ : Q4)) 4 = gl c 4 - 0 - 0 + 0 + 1 := ⟨gl_after h (by decide) 0, gl_after h (by decide) 1, gl_after h (by decide) 2, gl_after h (by decide) 3, gl_after h (by decide) 4⟩
theorem f5_1124 {c : List Int} (h : c.length = 5) : gl (after c (⟨1, 1, 2, 4⟩ : Q4)) 0 = gl c 0 - 0 - 0 + 0 + 0 ∧ gl (after c (⟨1, 1, 2, 4⟩ : Q4)) 1 = gl c 1 - 1 - 1 + 0 + 0 ∧ gl (after c (⟨1, 1, 2, 4⟩ : Q4)) 2 = gl c 2 - 0 - 0 + 1 + 0 ∧ gl (after c (⟨1, 1, 2, 4⟩ : Q4)) 3 = gl c 3 - 0 - 0 + 0 + 0 ∧ gl (after c (⟨1, 1, 2, 4⟩ : Q4)) 4 = gl c 4 - 0 - 0 + 0 + 1 := ⟨gl_after h (by decide) 0, gl_after h (by decide) 1, gl_after h (by decide) 2, gl_after h (by decide) 3, gl_after h (by decide) 4⟩
theorem f5_2324 {c : List Int} (h : c.length = 5) : gl (after c (⟨2, 3, 2, 4⟩ : Q4)) 0 = gl c 0 - 0 - 0 + 0 + 0 ∧ gl (after c (⟨2, 3, 2, 4⟩ : Q4)) 1 = gl c 1 - 0 - 0 + 0 + 0 ∧ gl (after c (⟨2, 3, 2, 4⟩ : Q4)) 2 = gl c 2 - 1 - 0 + 1 + 0 ∧ gl (after c (⟨2, 3, 2, 4⟩ : Q4)) 3 = gl c 3 - 0 - 1 + 0 + 0 ∧ gl (after c (⟨2, 3, 2, 4⟩ : Q4)) 4 = gl c 4 - 0 - 0 + 0 + 1 := ⟨gl_after h (by decide) 0, gl_after h (by decide) 1, gl_after h (by decide) 2, gl_after h (by decide) 3, gl_after h (by decide) 4⟩
theorem le32_0  {c : List Int} (hc : CrOk 5 c) (hi : 1 ≤ gl c 0 + gl c 1 + gl c 2 ∧ (0 * gl c 0 + 1 * gl c 1 + 2 * gl c 2) % 3 ≠ 2) : DeciC [⟨0, 0, 0, 3⟩, ⟨0, 1, 1, 3⟩, ⟨0, 2, 2, 4⟩, ⟨0, 4, 0, 3⟩, ⟨1, 1, 2, 4⟩, ⟨1, 2, 0, 3⟩, ⟨1, 4, 1, 3⟩, ⟨2, 2, 1, 3⟩, ⟨2, 3, 2, 4⟩] [0, 0, 1, 0, 1] 0 c := by
  refine dec_of (n := 5) (by decide) (fun c => 1 ≤ gl c 0 + gl c 1 + gl c 2 ∧ (0 * gl c 0 + 1 * gl c 1 + 2 * gl c 2) % 3 ≠ 2) (fun c => gl c 0 + gl c 1 + gl c 2 = 1 ∧ gl c 4 = 0) (fun c => (10 * (gl c 0 + gl c 1 + gl c 2) + gl c 4).toNat) ?_ ?_ ?_ ?_ hc hi
  · intro c r hc hi hr ha
    have hn := nz5 hc
    simp only [List.mem_cons, List.not_mem_nil, or_false] at hr
    rcases hr with rfl | rfl | rfl | rfl | rfl | rfl | rfl | rfl | rfl
    · have e := f5_0003 hc.len; have ha : 1 < gl c 0 := ha; omega
    · have e := f5_0113 hc.len; have ha : 0 < gl c 0 ∧ 0 < gl c 1 := ha; omega
    · have e := f5_0224 hc.len; have ha : 0 < gl c 0 ∧ 0 < gl c 2 := ha; omega
    · have e := f5_0403 hc.len; have ha : 0 < gl c 0 ∧ 0 < gl c 4 := ha; omega
    · have e := f5_1124 hc.len; have ha : 1 < gl c 1 := ha; omega
    · have e := f5_1203 hc.len; have ha : 0 < gl c 1 ∧ 0 < gl c 2 := ha; omega
    · have e := f5_1413 hc.len; have ha : 0 < gl c 1 ∧ 0 < gl c 4 := ha; omega
    · have e := f5_2213 hc.len; have ha : 1 < gl c 2 := ha; omega
    · have e := f5_2324 hc.len; have ha : 0 < gl c 2 ∧ 0 < gl c 3 := ha; omega
  · intro c r hc hi hg hr ha
    have hn := nz5 hc
    simp only [List.mem_cons, List.not_mem_nil, or_false] at hr
    rcases hr with rfl | rfl | rfl | rfl | rfl | rfl | rfl | rfl | rfl
    · have e := f5_0003 hc.len; have ha : 1 < gl c 0 := ha; omega
    · have e := f5_0113 hc.len; have ha : 0 < gl c 0 ∧ 0 < gl c 1 := ha; omega
    · have e := f5_0224 hc.len; have ha : 0 < gl c 0 ∧ 0 < gl c 2 := ha; omega
    · have e := f5_0403 hc.len; have ha : 0 < gl c 0 ∧ 0 < gl c 4 := ha; omega
    · have e := f5_1124 hc.len; have ha : 1 < gl c 1 := ha; omega
    · have e := f5_1203 hc.len; have ha : 0 < gl c 1 ∧ 0 < gl c 2 := ha; omega
    · have e := f5_1413 hc.len; have ha : 0 < gl c 1 ∧ 0 < gl c 4 := ha; omega
    · have e := f5_2213 hc.len; have ha : 1 < gl c 2 := ha; omega
    · have e := f5_2324 hc.len; have ha : 0 < gl c 2 ∧ 0 < gl c 3 := ha; omega
  · intro c hc hi hg s hs0 hp
    have hn := nn5 hc
    have hsl : s < 5 := hs0
    have : s = 0 ∨ s = 1 ∨ s = 2 ∨ s = 3 ∨ s = 4 := by omega
    rcases this with rfl | rfl | rfl | rfl | rfl
    · first | (show (0 : Int) = 0; omega) | omega
    · first | (show (0 : Int) = 0; omega) | omega
    · first | (show (1 : Int) = 0; omega) | omega
    · first | (show (0 : Int) = 0; omega) | omega
    · first | (show (1 : Int) = 0; omega) | omega
  · intro c hc hi hg
    have hn := nn5 hc
    by_cases h0 : 1 < gl c 0
    · refine ⟨(⟨0, 0, 0, 3⟩ : Q4), by simp, (by show 1 < gl c 0; omega), ?_⟩
      have e := f5_0003 hc.len
      try dsimp only
      omega
    by_cases h1 : 0 < gl c 0 ∧ 0 < gl c 1
    · refine ⟨(⟨0, 1, 1, 3⟩ : Q4), by simp, (by show 0 < gl c 0 ∧ 0 < gl c 1; omega), ?_⟩
      have e := f5_0113 hc.len
      try dsimp only
      omega
    by_cases h2 : 0 < gl c 0 ∧ 0 < gl c 2
    · refine ⟨(⟨0, 2, 2, 4⟩ : Q4), by simp, (by show 0 < gl c 0 ∧ 0 < gl c 2; omega), ?_⟩
      have e := f5_0224 hc.len
      try dsimp only
      omega
    by_cases h3 : 1 < gl c 1
    · refine ⟨(⟨1, 1, 2, 4⟩ : Q4), by simp, (by show 1 < gl c 1; omega), ?_⟩
      have e := f5_1124 hc.len
      try dsimp only
      omega
    by_cases h4 : 0 < gl c 1 ∧ 0 < gl c 2
    · refine ⟨(⟨1, 2, 0, 3⟩ : Q4), by simp, (by show 0 < gl c 1 ∧ 0 < gl c 2; omega), ?_⟩
      have e := f5_1203 hc.len
      try dsimp only
      omega
    by_cases h5 : 1 < gl c 2
    · refine ⟨(⟨2, 2, 1, 3⟩ : Q4), by simp, (by show 1 < gl c 2; omega), ?_⟩
      have e := f5_2213 hc.len
      try dsimp only
      omega
    by_cases h6 : 0 < gl c 0 ∧ 0 < gl c 4
    · refine ⟨(⟨0, 4, 0, 3⟩ : Q4), by simp, (by show 0 < gl c 0 ∧ 0 < gl c 4; omega), ?_⟩
      have e := f5_0403 hc.len
      try dsimp only
      omega
    by_cases h7 : 0 < gl c 1 ∧ 0 < gl c 4
    · refine ⟨(⟨1, 4, 1, 3⟩ : Q4), by simp, (by show 0 < gl c 1 ∧ 0 < gl c 4; omega), ?_⟩
      have e := f5_1413 hc.len
      try dsimp only
      omega
    exfalso
    omega
theorem le32_1  {c : List Int} (hc : CrOk 5 c) (hi : 1 ≤ gl c 0 + gl c 1 + gl c 2 ∧ (0 * gl c 0 + 1 * gl c 1 + 2 * gl c 2) % 3 = 2) : DeciC [⟨0, 0, 0, 3⟩, ⟨0, 1, 1, 3⟩, ⟨0, 2, 2, 4⟩, ⟨0, 4, 0, 3⟩, ⟨1, 1, 2, 4⟩, ⟨1, 2, 0, 3⟩, ⟨1, 4, 1, 3⟩, ⟨2, 2, 1, 3⟩, ⟨2, 3, 2, 4⟩] [0, 0, 1, 0, 1] 1 c := by
  refine dec_of (n := 5) (by decide) (fun c => 1 ≤ gl c 0 + gl c 1 + gl c 2 ∧ (0 * gl c 0 + 1 * gl c 1 + 2 * gl c 2) % 3 = 2) (fun c => gl c 0 + gl c 1 + gl c 2 = 1 ∧ gl c 3 = 0) (fun c => (10 * (gl c 0 + gl c 1 + gl c 2) + gl c 3).toNat) ?_ ?_ ?_ ?_ hc hi
  · intro c r hc hi hr ha
    have hn := nz5 hc
    simp only [List.mem_cons, List.not_mem_nil, or_false] at hr
    rcases hr with rfl | rfl | rfl | rfl | rfl | rfl | rfl | rfl | rfl
    · have e := f5_0003 hc.len; have ha : 1 < gl c 0 := ha; omega
    · have e := f5_0113 hc.len; have ha : 0 < gl c 0 ∧ 0 < gl c 1 := ha; omega
    · have e := f5_0224 hc.len; have ha : 0 < gl c 0 ∧ 0 < gl c 2 := ha; omega
    · have e := f5_0403 hc.len; have ha : 0 < gl c 0 ∧ 0 < gl c 4 := ha; omega
    · have e := f5_1124 hc.len; have ha : 1 < gl c 1 := ha; omega
    · have e := f5_1203 hc.len; have ha : 0 < gl c 1 ∧ 0 < gl c 2 := ha; omega
    · have e := f5_1413 hc.len; have ha : 0 < gl c 1 ∧ 0 < gl c 4 := ha; omega
    · have e := f5_2213 hc.len; have ha : 1 < gl c 2 := ha; omega
    · have e := f5_2324 hc.len; have ha : 0 < gl c 2 ∧ 0 < gl c 3 := ha; omega
  · intro c r hc hi hg hr ha
    have hn := nz5 hc
    simp only [List.mem_cons, List.not_mem_nil, or_false] at hr
    rcases hr with rfl | rfl | rfl | rfl | rfl | rfl | rfl | rfl | rfl
    · have e := f5_0003 hc.len; have ha : 1 < gl c 0 := ha; omega
    · have e := f5_0113 hc.len; have ha : 0 < gl c 0 ∧ 0 < gl c 1 := ha; omega
    · have e := f5_0224 hc.len; have ha : 0 < gl c 0 ∧ 0 < gl c 2 := ha; omega
    · have e := f5_0403 hc.len; have ha : 0 < gl c 0 ∧ 0 < gl c 4 := ha; omega
    · have e := f5_1124 hc.len; have ha : 1 < gl c 1 := ha; omega
    · have e := f5_1203 hc.len; have ha : 0 < gl c 1 ∧ 0 < gl c 2 := ha; omega
    · have e := f5_1413 hc.len; have ha : 0 < gl c 1 ∧ 0 < gl c 4 := ha; omega
    · have e := f5_2213 hc.len; have ha : 1 < gl c 2 := ha; omega
    · have e := f5_2324 hc.len; have ha : 0 < gl c 2 ∧ 0 < gl c 3 := ha; omega
  · intro c hc hi hg s hs0 hp
    have hn := nn5 hc
    have hsl : s < 5 := hs0
    have : s = 0 ∨ s = 1 ∨ s = 2 ∨ s = 3 ∨ s = 4 := by omega
    rcases this with rfl | rfl | rfl | rfl | rfl
    · first | (show (0 : Int) = 1; omega) | omega
    · first | (show (0 : Int) = 1; omega) | omega
    · first | (show (1 : Int) = 1; omega) | omega
    · first | (show (0 : Int) = 1; omega) | omega
    · first | (show (1 : Int) = 1; omega) | omega
  · intro c hc hi hg
    have hn := nn5 hc
    by_cases h0 : 1 < gl c 0
    · refine ⟨(⟨0, 0, 0, 3⟩ : Q4), by simp, (by show 1 < gl c 0; omega), ?_⟩
      have e := f5_0003 hc.len
      try dsimp only
      omega
    by_cases h1 : 0 < gl c 0 ∧ 0 < gl c 1
    · refine ⟨(⟨0, 1, 1, 3⟩ : Q4), by simp, (by show 0 < gl c 0 ∧ 0 < gl c 1; omega), ?_⟩
      have e := f5_0113 hc.len
      try dsimp only
      omega
    by_cases h2 : 0 < gl c 0 ∧ 0 < gl c 2
    · refine ⟨(⟨0, 2, 2, 4⟩ : Q4), by simp, (by show 0 < gl c 0 ∧ 0 < gl c 2; omega), ?_⟩
      have e := f5_0224 hc.len
      try dsimp only
      omega
    by_cases h3 : 1 < gl c 1
    · refine ⟨(⟨1, 1, 2, 4⟩ : Q4), by simp, (by show 1 < gl c 1; omega), ?_⟩
      have e := f5_1124 hc.len
      try dsimp only
      omega
    by_cases h4 : 0 < gl c 1 ∧ 0 < gl c 2
    · refine ⟨(⟨1, 2, 0, 3⟩ : Q4), by simp, (by show 0 < gl c 1 ∧ 0 < gl c 2; omega), ?_⟩
      have e := f5_1203 hc.len
      try dsimp only
      omega
    by_cases h5 : 1 < gl c 2
    · refine ⟨(⟨2, 2, 1, 3⟩ : Q4), by simp, (by show 1 < gl c 2; omega), ?_⟩
      have e := f5_2213 hc.len
      try dsimp only
      omega
    by_cases h6 : 0 < gl c 2 ∧ 0 < gl c 3
    · refine ⟨(⟨2, 3, 2, 4⟩ : Q4), by simp, (by show 0 < gl c 2 ∧ 0 < gl c 3; omega), ?_⟩
      have e := f5_2324 hc.len
      try dsimp only
      omega
    exfalso
    omega
theorem f4_0133 {c : List Int} (h : c.length = 4) : gl (after c (⟨0, 1, 3, 3⟩ : Q4)) 0 = gl c 0 - 1 - 0 + 0 + 0 ∧ gl (after c (⟨0, 1, 3, 3⟩ : Q4)) 1 = gl c 1 - 0 - 1 + 0 + 0 ∧ gl (after c (⟨0, 1, 3, 3⟩ : Q4)) 2 = gl c 2 - 0 - 0 + 0 + 0 ∧ gl (after c (⟨0, 1, 3, 3⟩ : Q4)) 3 = gl c 3 - 0 - 0 + 1 + 1 := ⟨gl_after h (by decide) 0, gl_after h (by decide) 1, gl_after h (by decide) 2, gl_after h (by decide) 3⟩
theorem maj_1  {c : List Int} (hc : CrOk 4 c) (hi : gl c 1 < gl c 0) : DeciC [⟨0, 1, 3, 3⟩, ⟨0, 3, 0, 2⟩, ⟨1, 2, 1, 3⟩, ⟨2, 3, 3, 3⟩] [1, 0, 1, 0] 1 c := by
  refine dec_of (n := 4) (by decide) (fun c => gl c 1 < gl c 0) (fun c => gl c 1 = 0 ∧ gl c 3 = 0) (fun c => (3 * gl c 1 + gl c 3).toNat) ?_ ?_ ?_ ?_ hc hi
  · intro c r hc hi hr ha
    have hn := nz4 hc
    simp only [List.mem_cons, List.not_mem_nil, or_false] at hr
    rcases hr with rfl | rfl | rfl | rfl
    · have e := f4_0133 hc.len; have ha : 0 < gl c 0 ∧ 0 < gl c 1 := ha; omega
    · have e := f4_0302 hc.len; have ha : 0 < gl c 0 ∧ 0 < gl c 3 := ha; omega
    · have e := f4_1213 hc.len; have ha : 0 < gl c 1 ∧ 0 < gl c 2 := ha; omega
    · have e := f4_2333 hc.len; have ha : 0 < gl c 2 ∧ 0 < gl c 3 := ha; omega
  · intro c r hc hi hg hr ha
    have hn := nz4 hc
    simp only [List.mem_cons, List.not_mem_nil, or_false] at hr
    rcases hr with rfl | rfl | rfl | rfl
    · have e := f4_0133 hc.len; have ha : 0 < gl c 0 ∧ 0 < gl c 1 := ha; omega
    · have e := f4_0302 hc.len; have ha : 0 < gl c 0 ∧ 0 < gl c 3 := ha; omega
    · have e := f4_1213 hc.len; have ha : 0 < gl c 1 ∧ 0 < gl c 2 := ha; omega
    · have e := f4_2333 hc.len; have ha : 0 < gl c 2 ∧ 0 < gl c 3 := ha; omega
  · intro c hc hi hg s hs0 hp
    have hn := nn4 hc
    have hsl : s < 4 := hs0
    have : s = 0 ∨ s = 1 ∨ s = 2 ∨ s = 3 := by omega
    rcases this with rfl | rfl | rfl | rfl
    · first | (show (1 : Int) = 1; omega) | omega
    · first | (show (0 : Int) = 1; omega) | omega
    · first | (show (1 : Int) = 1; omega) | omega
    · first | (show (0 : Int) = 1; omega) | omega
  · intro c hc hi hg
    have hn := nn4 hc
    by_cases h0 : 0 < gl c 1
    · refine ⟨(⟨0, 1, 3, 3⟩ : Q4), by simp, (by show 0 < gl c 0 ∧ 0 < gl c 1; omega), ?_⟩
      have e := f4_0133 hc.len
      try dsimp only
      omega
    by_cases h1 : 0 < gl c 3
    · refine ⟨(⟨0, 3, 0, 2⟩ : Q4), by simp, (by show 0 < gl c 0 ∧ 0 < gl c 3; omega), ?_⟩
      have e := f4_0302 hc.len
      try dsimp only
      omega
    exfalso
    omega
theorem maj_0  {c : List Int} (hc : CrOk 4 c) (hi : gl c 0 ≤ gl c 1 ∧ 1 ≤ gl c 1 + gl c 3) : DeciC [⟨0, 1, 3, 3⟩, ⟨0, 3, 0, 2⟩, ⟨1, 2, 1, 3⟩, ⟨2, 3, 3, 3⟩] [1, 0, 1, 0] 0 c := by
  refine dec_of (n := 4) (by decide) (fun c => gl c 0 ≤ gl c 1 ∧ 1 ≤ gl c 1 + gl c 3) (fun c => gl c 0 = 0 ∧ gl c 2 = 0) (fun c => (gl c 0 + gl c 2).toNat) ?_ ?_ ?_ ?_ hc hi
  · intro c r hc hi hr ha
    have hn := nz4 hc
    simp only [List.mem_cons, List.not_mem_nil, or_false] at hr
    rcases hr with rfl | rfl | rfl | rfl
    · have e := f4_0133 hc.len; have ha : 0 < gl c 0 ∧ 0 < gl c 1 := ha; omega
    · have e := f4_0302 hc.len; have ha : 0 < gl c 0 ∧ 0 < gl c 3 := ha; omega
    · have e := f4_1213 hc.len; have ha : 0 < gl c 1 ∧ 0 < gl c 2 := ha; omega
    · have e := f4_2333 hc.len; have ha : 0 < gl c 2 ∧ 0 < gl c 3 := ha; omega
  · intro c r hc hi hg hr ha
    have hn := nz4 hc
    simp only [List.mem_cons, List.not_mem_nil, or_false] at hr
    rcases hr with rfl | rfl | rfl | rfl
    · have e := f4_0133 hc.len; have ha : 0 < gl c 0 ∧ 0 < gl c 1 := ha; omega
    · have e := f4_0302 hc.len; have ha : 0 < gl c 0 ∧ 0 < gl c 3 := ha; omega
    · have e := f4_1213 hc.len; have ha : 0 < gl c 1 ∧ 0 < gl c 2 := ha; omega
    · have e := f4_2333 hc.len; have ha : 0 < gl c 2 ∧ 0 < gl c 3 := ha; omega
  · intro c hc hi hg s hs0 hp
    have hn := nn4 hc
    have hsl : s < 4 := hs0
    have : s = 0 ∨ s = 1 ∨ s = 2 ∨ s = 3 := by omega
    rcases this with rfl | rfl | rfl | rfl
    · first | (show (1 : Int) = 0; omega) | omega
    · first | (show (0 : Int) = 0; omega) | omega
    · first | (show (1 : Int) = 0; omega) | omega
    · first | (show (0 : Int) = 0; omega) | omega
  · intro c hc hi hg
    have hn := nn4 hc
    by_cases h0 : 0 < gl c 0
    · refine ⟨(⟨0, 1, 3, 3⟩ : Q4), by simp, (by show 0 < gl c 0 ∧ 0 < gl c 1; omega), ?_⟩
      have e := f4_0133 hc.len
      try dsimp only
      omega
    by_cases h1 : 0 < gl c 1 ∧ 0 < gl c 2
    · refine ⟨(⟨1, 2, 1, 3⟩ : Q4), by simp, (by show 0 < gl c 1 ∧ 0 < gl c 2; omega), ?_⟩
      have e := f4_1213 hc.len
      try dsimp only
      omega
    by_cases h2 : 0 < gl c 2 ∧ 0 < gl c 3
    · refine ⟨(⟨2, 3, 3, 3⟩ : Q4), by simp, (by show 0 < gl c 2 ∧ 0 < gl c 3; omega), ?_⟩
      have e := f4_2333 hc.len
      try dsimp only
      omega
    exfalso
    omega
end Go.Proofs.Ytpiplaicnbapbaa
namespace Go.Proofs.Ytpiplaicnbapbaa
open Go.Rx Go.RowKit
theorem sep4 {H : Hp} {Z a b n n' m m' : Nat} (hz : Z < H.next) (ha : a < H.next) (hb : b < H.next) (h1 : Z ≠ a) (h2 : Z ≠ b) (h3 : a ≠ b) : Rx.Sep H [pl Z, slc a 0 n n', slc b 0 m m', .slice none 0 0] [] := by
  refine ⟨?_, ?_, ?_, ?_⟩
  · intro v hv r e
    simp only [List.mem_cons, List.not_mem_nil, or_false] at hv
    rcases hv with rfl | rfl | rfl | rfl <;> cases e <;> assumption
  · intro v hv; simp at hv
  · intro i j v u hij hv hu r e1 e2
    match i, j, hij, hv, hu with
    | 0, 0, hij, _, _ => exact absurd rfl hij
    | 1, 1, hij, _, _ => exact absurd rfl hij
    | 2, 2, hij, _, _ => exact absurd rfl hij
    | 3, 3, hij, _, _ => exact absurd rfl hij
    | 0, 1, _, hv, hu => cases hv; cases hu; cases e1; cases e2; exact h1 rfl
    | 0, 2, _, hv, hu => cases hv; cases hu; cases e1; cases e2; exact h2 rfl
    | 1, 0, _, hv, hu => cases hv; cases hu; cases e1; cases e2; exact h1 rfl
    | 1, 2, _, hv, hu => cases hv; cases hu; cases e1; cases e2; exact h3 rfl
    | 2, 0, _, hv, hu => cases hv; cases hu; cases e1; cases e2; exact h2 rfl
    | 2, 1, _, hv, hu => cases hv; cases hu; cases e1; cases e2; exact h3 rfl
    | 0, 3, _, hv, hu => cases hu; cases e2
    | 1, 3, _, hv, hu => cases hu; cases e2
    | 2, 3, _, hv, hu => cases hu; cases e2
    | 3, _, _, hv, hu => cases hv; cases e1
    | 0, j + 4, _, _, hu => simp at hu
    | 1, j + 4, _, _, hu => simp at hu
    | 2, j + 4, _, _, hu => simp at hu
    | i + 4, _, _, hv, _ => simp at hv
  · intro v _ u hu; simp at hu
theorem RZ.make {hb : Hp} {tz : Nat} {O S : List Int} {cO cS : List Value} (eO : cO = O.map int) (eS : cS = S.map int) (cs : List Value) :
    RZ hb (((hb.lay (.row 3 true cO)).lay (.row 3 true cS)).lay (.row tz true cs)) tz ((hb.lay (.row 3 true cO)).lay (.row 3 true cS)).next (slc hb.next 0 O.length O.length) (slc (hb.lay (.row 3 true cO)).next 0 S.length S.length) (.slice none 0 0) O S [] cs := by
  subst eO
  subst eS
  have n1 : (hb.lay (.row 3 true (O.map int))).next = hb.next + 1 := Hp.next_lay _ _
  have n2 : ((hb.lay (.row 3 true (O.map int))).lay (.row 3 true (S.map int))).next = hb.next + 2 := by rw [Hp.next_lay, n1]
  have a1 : (((hb.lay (.row 3 true (O.map int))).lay (.row 3 true (S.map int))).lay (.row tz true cs)).at hb.next = some (.row 3 true (O.map int)) := Hp.at_lay_old _ (Hp.at_lay_old _ (Hp.at_lay_self _ _))
  have a2 : (((hb.lay (.row 3 true (O.map int))).lay (.row 3 true (S.map int))).lay (.row tz true cs)).at (hb.lay (.row 3 true (O.map int))).next = some (.row 3 true (S.map int)) := Hp.at_lay_old _ (Hp.at_lay_self _ _)
  exact ⟨((Grows.lay _ _).then_lay _).then_lay _, Hp.at_lay_self _ _, ⟨by rw [List.length_map, Nat.mul_one], .inr ⟨_, rfl, Nat.le_refl _, true, a1⟩⟩, ⟨by rw [List.length_map, Nat.mul_one], .inr ⟨_, rfl, by omega, true, a2⟩⟩, BuiltC.nil, by omega, sep4 (by simp only [Hp.next_lay]; omega) (by simp only [Hp.next_lay]; omega) (by simp only [Hp.next_lay]; omega) (by omega) (by omega) (by omega)⟩
def alOne (m a b : Nat) : List Q4 := if m ≤ a + b then [⟨a, b, m, m⟩] else if 0 < a then [⟨a, b, (a + b : Nat), 0⟩] else []
def alRow (m a j : Nat) : List Q4 := (List.range j).flatMap fun i => alOne m a (a + i)
def alUp (m a : Nat) : List Q4 := (List.range a).flatMap fun a => alRow m a (m + 1 - a)
theorem alRow_succ (m a j : Nat) : alRow m a (j + 1) = alRow m a j ++ alOne m a (a + j) := by
  unfold alRow; rw [List.range_succ, List.flatMap_append]; simp
theorem alUp_succ (m a : Nat) : alUp m (a + 1) = alUp m a ++ alRow m a (m + 1 - a) := by
  unfold alUp; rw [List.range_succ, List.flatMap_append]; simp
theorem alOne_len (m a b : Nat) : (alOne m a b).length ≤ 1 := by
  unfold alOne; split
  · simp
  · split <;> simp
theorem alRow_len (m a j : Nat) : (alRow m a j).length ≤ j := by
  induction j with
  | zero => simp [alRow]
  | succ j ih => rw [alRow_succ, List.length_append]; have := alOne_len m a (a + j); omega
theorem alUp_len (m : Nat) : ∀ a, (alUp m a).length ≤ a * (m + 1)
  | 0 => by simp [alUp]
  | a + 1 => by
    rw [alUp_succ, List.length_append]
    have h1 := alUp_len m a
    have h2 := alRow_len m a (m + 1 - a)
    rw [Nat.add_mul]
    omega
def alOut (m : Nat) : List Int := (List.replicate (m + 1) 0).set m 1
def atP (m : Nat) : Prot := ⟨(m + 1 : Nat), alOut m, [1], alUp m (m + 1)⟩
attribute [local irreducible] E idxN cellAt cellsAt storeAt callable helems hmoved lookIn findKey keyOk hentries Hp.at Hp.set Hp.lay arBits hupdated setAt CallP YieldP BoolOf IsWrap Rnd LoopP AppP CutP Int.tmod Int.tdiv Int.fdiv
section
variable [Unknowns]
attribute [local irreducible] ResP sameAt finP
theorem atLeast_spec (m : Nat) (hm : 1 ≤ m ∧ m ≤ 4) (h : Hp) : CallP E 87 [int m] h (fun r h' => PV h' r (atP m) ∧ Grows h h') := by
  have nilE : nilS = .slice none 0 0 := rfl
  refine enter87 (by simp) ?_
  conv => whnf
  refine SeqP.cut (α := Unit) (fun _ => [(2, ptr h.next 0), (0, int m)]) (fun _ H => h.lay (.row 25 true [int 0, nilS, nilS, nilS]) = H) ?_ ?_
  · conv => whnf
    exact ⟨(), ⟨rfl, rfl, trivial⟩, rfl, rfl⟩
  rintro _ φ1 _ rfl
  have hexb : ∃ hb, h.lay (.row 25 true [int 0, nilS, nilS, nilS]) = hb := ⟨_, rfl⟩
  obtain ⟨hb, ehb⟩ := hexb
  have g0 : Grows h hb := ehb ▸ Grows.lay _ _
  have a0 : hb.at h.next = some (.row 25 true [int 0, nilS, nilS, nilS]) := ehb ▸ Hp.at_lay_self _ _
  rw [ehb]
  have hn0 : hb.next = h.next + 1 := by rw [← ehb, Hp.next_lay]
  clear ehb
  conv => whnf
  refine SeqP.cut (α := Nat × Value × Value × Hp) (fun s => [(3, ptr s.1 0), (2, ptr h.next 0), (0, int m)]) (fun s H => s.2.2.2 = H ∧ RZ hb s.2.2.2 25 s.1 s.2.1 s.2.2.1 (.slice none 0 0) (List.replicate (m + 1) 0) [1] [] [int (m + 1 : Nat), s.2.1, s.2.2.1, .slice none 0 0]) ?_ ?_
  · conv => whnf
    refine ⟨((m + 1 : Nat) : Int), wie (by omega) (by omega), ?_⟩
    conv => whnf
    refine ⟨((m + 1 : Nat) : Int), wie (by omega) (by omega), ?_⟩
    conv => whnf
    refine ⟨⟨by omega, by omega, by omega, by omega⟩, ?_⟩
    conv => whnf
    refine ⟨rfl, _, storeAt_all (vs := [int (m + 1 : Nat), slc hb.next 0 (m + 1) (m + 1), slc _ 0 1 1, .slice none 0 0]) rfl rfl rfl, ?_⟩
    conv => whnf
    have hz := RZ.make (hb := hb) (tz := 25) (O := List.replicate (m + 1) 0) (S := [1]) (cS := [int 1]) (rep_row 0 (m + 1)) rfl [int (m + 1 : Nat), slc hb.next 0 (m + 1) (m + 1), slc (hb.lay (.row 3 true (times [int 0] (m + 1)))).next 0 1 1, .slice none 0 0]
    rw [List.length_replicate] at hz
    exact ⟨(((hb.lay (.row 3 true (times [int 0] (m + 1)))).lay (.row 3 true [int 1])).next, slc hb.next 0 (m + 1) (m + 1), slc (hb.lay (.row 3 true (times [int 0] (m + 1)))).next 0 1 1, _), ⟨rfl, rfl, rfl, trivial⟩, ⟨rfl, hz⟩, rfl⟩
  rintro ⟨Z, ov, sv, H1⟩ φ2 _ ⟨rfl, hz⟩
  dsimp only at hz ⊢
  have hws := hz.s.slice
  obtain ⟨asx, rfl, -⟩ := hws
  conv => whnf
  refine SeqP.cut (α := Value × Hp) (fun s => [(3, ptr Z 0), (2, ptr h.next 0), (0, int m)]) (fun s H => s.2 = H ∧ RZ hb s.2 25 Z s.1 (.slice asx [(1 : Int)].length [(1 : Int)].length) (.slice none 0 0) (alOut m) [1] [] [int (m + 1 : Nat), s.1, .slice asx [(1 : Int)].length [(1 : Int)].length, .slice none 0 0]) ?_ ?_
  · have hst := hz.o_set (i := m) (by rw [List.length_replicate]; omega) 1
    obtain ⟨r', x', eo, st, hz'⟩ := hst
    subst eo
    conv => whnf
    refine ⟨_, cellAt_row hz.z rfl, ?_⟩
    conv => whnf
    refine ⟨rfl, ⟨by omega, by rw [List.length_replicate]; omega⟩, ?_⟩
    conv => whnf
    refine ⟨rfl, _, st, ?_⟩
    conv => whnf
    exact ⟨(slc r' 0 (List.replicate (m + 1) (0 : Int)).length (List.replicate (m + 1) (0 : Int)).length, _), ⟨rfl, rfl, rfl, trivial⟩, ⟨rfl, hz'⟩, rfl⟩
  clear hz
  rintro ⟨ov, H2⟩ φ3 _ ⟨rfl, hz⟩
  dsimp only at hz ⊢
  have hws := hz.o.slice
  obtain ⟨ao, rfl, -⟩ := hws
  have hoL : (alOut m).length = m + 1 := by unfold alOut; rw [List.length_set, List.length_replicate]
  conv => whnf
  refine SeqP.cut (α := Value × Hp) (fun s => [(3, ptr Z 0), (2, ptr h.next 0)]) (fun s H => s.2 = H ∧ RZ hb s.2 25 Z (.slice ao (alOut m).length (alOut m).length) (.slice asx [(1 : Int)].length [(1 : Int)].length) s.1 (alOut m) [1] (alUp m (m + 1)) [int (m + 1 : Nat), .slice ao (alOut m).length (alOut m).length, .slice asx [(1 : Int)].length [(1 : Int)].length, s.1]) ?_ ?_
  · conv => whnf
    repeat (refine SeqP.go ?_; conv => whnf)
    refine ⟨_, cellAt_row hz.z rfl, ?_⟩
    conv => whnf
    repeat (refine SeqP.go ?_; conv => whnf)
    refine loop_inv (α := Nat × Value × Hp) (fun s => [(20, int s.1), (19, int (m + 1 : Nat)), (3, ptr Z 0), (2, ptr h.next 0), (0, int m)]) (fun s => s.2.2) (fun s => s.1 ≤ m + 1 ∧ RZ hb s.2.2 25 Z (.slice ao (alOut m).length (alOut m).length) (.slice asx [(1 : Int)].length [(1 : Int)].length) s.2.1 (alOut m) [1] (alUp m s.1) [int (m + 1 : Nat), .slice ao (alOut m).length (alOut m).length, .slice asx [(1 : Int)].length [(1 : Int)].length, s.2.1]) (fun s => m + 1 - s.1) (0, .slice none 0 0, H2) ⟨Nat.zero_le _, hz⟩ ⟨rfl, rfl, rfl, rfl, rfl, trivial⟩ (Hp.Le.refl _) ?_
    clear hz
    rintro ⟨a, rv, H⟩ φ4 ⟨ha, hz⟩
    dsimp only at ha hz ⊢
    conv => whnf
    repeat (refine SeqP.go ?_; conv => whnf)
    refine cmpB (fun c1 => ?_) (fun c1 => ?_)
    rotate_left
    · have : a = m + 1 := by omega
      subst this
      conv => whnf
      repeat (refine SeqP.go ?_; conv => whnf)
      exact ⟨(_, H), ⟨rfl, rfl, trivial⟩, ⟨rfl, hz⟩, rfl⟩
    have han : a < m + 1 := by omega
    conv => whnf
    refine SeqP.go ?_
    conv => whnf
    refine SeqP.cut (α := Value × Hp) (fun s => [(20, int a), (19, int (m + 1 : Nat)), (3, ptr Z 0), (2, ptr h.next 0), (0, int m)]) (fun s H' => s.2 = H' ∧ RZ hb s.2 25 Z (.slice ao (alOut m).length (alOut m).length) (.slice asx [(1 : Int)].length [(1 : Int)].length) s.1 (alOut m) [1] (alUp m (a + 1)) [int (m + 1 : Nat), .slice ao (alOut m).length (alOut m).length, .slice asx [(1 : Int)].length [(1 : Int)].length, s.1]) ?_ ?_
    rotate_left
    · rintro ⟨w', H'⟩ φ7 _ ⟨rfl, h1⟩
      dsimp only at h1 ⊢
      conv => whnf
      refine ⟨((a + 1 : Nat) : Int), wie (by omega) (by omega), ?_⟩
      conv => whnf
      exact Rnd.mk (a + 1, w', H') ⟨by show a + 1 ≤ m + 1; omega, h1⟩ (by show m + 1 - (a + 1) < m + 1 - a; omega) ⟨rfl, rfl, rfl, rfl, rfl, trivial⟩ (Hp.Le.refl _) rfl
    conv => whnf
    repeat (refine SeqP.go ?_; conv => whnf)
    refine loop_inv (α := Nat × Value × Hp) (fun s => [(5, int (a + s.1 : Nat)), (4, int a), (20, int a), (19, int (m + 1 : Nat)), (3, ptr Z 0), (2, ptr h.next 0), (0, int m)]) (fun s => s.2.2) (fun s => a + s.1 ≤ m + 1 ∧ RZ hb s.2.2 25 Z (.slice ao (alOut m).length (alOut m).length) (.slice asx [(1 : Int)].length [(1 : Int)].length) s.2.1 (alOut m) [1] (alUp m a ++ alRow m a s.1) [int (m + 1 : Nat), .slice ao (alOut m).length (alOut m).length, .slice asx [(1 : Int)].length [(1 : Int)].length, s.2.1]) (fun s => m + 1 - s.1) (0, rv, H) ⟨by show a + 0 ≤ m + 1; omega, by show RZ _ _ _ _ _ _ _ _ _ (alUp m a ++ []) _; rw [List.append_nil]; exact hz⟩ ⟨rfl, rfl, rfl, rfl, rfl, rfl, rfl, trivial⟩ (Hp.Le.refl _) ?_
    clear hz
    rintro ⟨j, rv, H⟩ φ5 ⟨hj, hz⟩
    dsimp only at hj hz ⊢
    have hwk := hz.r.slice
    obtain ⟨aw, rfl, -⟩ := hwk
    conv => whnf
    repeat (refine SeqP.go ?_; conv => whnf)
    refine ⟨_, cellAt_row hz.z rfl, ?_⟩
    conv => whnf
    refine cmpB (fun c2 => ?_) (fun c2 => ?_)
    rotate_left
    · have ej : j = m + 1 - a := by omega
      rw [ej, ← alUp_succ] at hz
      conv => whnf
      repeat (refine SeqP.go ?_; conv => whnf)
      exact ⟨(_, H), ⟨rfl, rfl, rfl, rfl, rfl, trivial⟩, ⟨rfl, hz⟩, rfl⟩
    have hjn : a + j < m + 1 := by omega
    have hQl : (alUp m a ++ alRow m a j).length ≤ 1000 := by
      rw [List.length_append]
      have h1 := alUp_len m a
      have h2 := alRow_len m a j
      have h3 : a * (m + 1) ≤ 5 * 5 := Nat.mul_le_mul (by omega) (by omega)
      omega
    conv => whnf
    refine SeqP.cut (α := Value × Hp) (fun s => [(5, int (a + j : Nat)), (4, int a), (20, int a), (19, int (m + 1 : Nat)), (3, ptr Z 0), (2, ptr h.next 0), (0, int m)]) (fun s H' => s.2 = H' ∧ RZ hb s.2 25 Z (.slice ao (alOut m).length (alOut m).length) (.slice asx [(1 : Int)].length [(1 : Int)].length) s.1 (alOut m) [1] (alUp m a ++ alRow m a (j + 1)) [int (m + 1 : Nat), .slice ao (alOut m).length (alOut m).length, .slice asx [(1 : Int)].length [(1 : Int)].length, s.1]) ?_ ?_
    rotate_left
    · rintro ⟨w', H'⟩ φ7 _ ⟨rfl, h1⟩
      dsimp only at h1 ⊢
      conv => whnf
      refine ⟨((a + (j + 1) : Nat) : Int), wie (by omega) (by omega), ?_⟩
      conv => whnf
      exact Rnd.mk (j + 1, w', H') ⟨by show a + (j + 1) ≤ m + 1; omega, h1⟩ (by show m + 1 - (j + 1) < m + 1 - j; omega) ⟨rfl, rfl, rfl, rfl, rfl, rfl, rfl, trivial⟩ (Hp.Le.refl _) rfl
    conv => whnf
    repeat (refine SeqP.go ?_; conv => whnf)
    refine ⟨((a + (a + j) : Nat) : Int), wie (by omega) (by omega), ?_⟩
    conv => whnf
    repeat (refine SeqP.go ?_; conv => whnf)
    refine cmpB (fun c3 => ?_) (fun c3 => ?_)
    · have e1 : alOne m a (a + j) = [⟨a, (a + j : Nat), m, m⟩] := by unfold alOne; rw [if_pos (by omega)]
      conv => whnf
      repeat (refine SeqP.go ?_; conv => whnf)
      refine ⟨_, cellAt_row hz.z rfl, ?_⟩
      conv => whnf
      refine hz.r_app (z := ⟨a, (a + j : Nat), m, m⟩) (by omega) ?_
      rintro rv' H' ⟨a', m', rfl⟩ hz'
      rw [List.append_assoc, ← e1, ← alRow_succ] at hz'
      conv => whnf
      refine ⟨rfl, _, storeAt_row hz'.z (by simp) rfl, ?_⟩
      conv => whnf
      repeat (refine SeqP.go ?_; conv => whnf)
      exact ⟨(_, _), ⟨rfl, rfl, rfl, rfl, rfl, rfl, rfl, trivial⟩, ⟨rfl, hz'.put _⟩, rfl⟩
    conv => whnf
    repeat (refine SeqP.go ?_; conv => whnf)
    refine cmpB (fun c4 => ?_) (fun c4 => ?_)
    · have e1 : alOne m a (a + j) = [⟨a, (a + j : Nat), (a + (a + j) : Nat), 0⟩] := by unfold alOne; rw [if_neg (by omega), if_pos (by omega)]
      conv => whnf
      repeat (refine SeqP.go ?_; conv => whnf)
      refine ⟨_, cellAt_row hz.z rfl, ?_⟩
      conv => whnf
      refine hz.r_app (z := ⟨a, (a + j : Nat), (a + (a + j) : Nat), 0⟩) (by omega) ?_
      rintro rv' H' ⟨a', m', rfl⟩ hz'
      rw [List.append_assoc, ← e1, ← alRow_succ] at hz'
      conv => whnf
      refine ⟨rfl, _, storeAt_row hz'.z (by simp) rfl, ?_⟩
      conv => whnf
      repeat (refine SeqP.go ?_; conv => whnf)
      exact ⟨(_, _), ⟨rfl, rfl, rfl, rfl, rfl, rfl, rfl, trivial⟩, ⟨rfl, hz'.put _⟩, rfl⟩
    have e1 : alOne m a (a + j) = [] := by unfold alOne; rw [if_neg (by omega), if_neg (by omega)]
    rw [show alUp m a ++ alRow m a j = alUp m a ++ alRow m a (j + 1) from by rw [alRow_succ, e1, List.append_nil]] at hz
    conv => whnf
    repeat (refine SeqP.go ?_; conv => whnf)
    exact ⟨(_, H), ⟨rfl, rfl, rfl, rfl, rfl, rfl, rfl, trivial⟩, ⟨rfl, hz⟩, rfl⟩
  clear hz
  rintro ⟨rv, H3⟩ φ4 _ ⟨rfl, hz⟩
  dsimp only at hz ⊢
  have hws := hz.r.slice
  obtain ⟨ar, rfl, -⟩ := hws
  have a3 := hz.gr.at_ _ _ a0
  have hzr := hz.z
  have g1 : Grows h (H3.set h.next (.row 25 true [int (m + 1 : Nat), .slice ao (alOut m).length (alOut m).length, .slice asx [(1 : Int)].length [(1 : Int)].length, .slice ar (alUp m (m + 1)).length (alUp m (m + 1)).length])) := (g0.trans hz.gr).then_set _ (Nat.le_refl _)
  have hpv : PV (H3.set h.next (.row 25 true [int (m + 1 : Nat), .slice ao (alOut m).length (alOut m).length, .slice asx [(1 : Int)].length [(1 : Int)].length, .slice ar (alUp m (m + 1)).length (alUp m (m + 1)).length])) (.agg ⟨[int (m + 1 : Nat), .slice ao (alOut m).length (alOut m).length, .slice asx [(1 : Int)].length [(1 : Int)].length, .slice ar (alUp m (m + 1)).length (alUp m (m + 1)).length]⟩) (atP m) := by
    have lo : ∀ {e s n : Nat} {v : Value} {cs : List Value}, BuiltC hb H3 e s v n cs → BuiltC hb (H3.set h.next (.row 25 true [int (m + 1 : Nat), .slice ao (alOut m).length (alOut m).length, .slice asx [(1 : Int)].length [(1 : Int)].length, .slice ar (alUp m (m + 1)).length (alUp m (m + 1)).length])) e s v n cs := by
      rintro e s n v cs ⟨h1, h2⟩
      refine ⟨h1, ?_⟩
      rcases h2 with h2 | ⟨r, e1, h2, x, h3⟩
      · exact .inl h2
      · exact .inr ⟨r, e1, h2, x, by rw [Hp.at_set_ne _ (by omega)]; exact h3⟩
    exact ⟨_, _, _, rfl, LV.of (lo hz.o).b, LV.of (lo hz.s).b, (lo hz.r).back (Nat.zero_le _)⟩
  conv => whnf
  repeat (refine SeqP.go ?_; conv => whnf)
  refine ⟨_, all_cells hzr rfl, ?_⟩
  conv => whnf
  refine ⟨rfl, _, storeAt_full (vs := [int (m + 1 : Nat), .slice ao (alOut m).length (alOut m).length, .slice asx [(1 : Int)].length [(1 : Int)].length, .slice ar (alUp m (m + 1)).length (alUp m (m + 1)).length]) a3 rfl rfl rfl, ?_⟩
  conv => whnf
  repeat (refine SeqP.go ?_; conv => whnf)
  obtain ⟨i25, t25, ag25, sz25⟩ := ty25
  exact leave_cell rfl t25 ag25 (by rw [sz25]; exact all_cells (Hp.at_set_self _ (Hp.lt_of_at a3)) rfl) ⟨hpv, g1⟩
end
end Go.Proofs.Ytpiplaicnbapbaa
