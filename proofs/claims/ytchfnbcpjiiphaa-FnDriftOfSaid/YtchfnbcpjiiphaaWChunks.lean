/-
  All words of up to nine pairs, in eight parts: what is so of each part's words is so of every word.
-/
import Derived.Test.YtchfnbcpjiiphaaWords
namespace Go.Proofs.Ytchfnbcpjiiphaa

theorem words_step (f : Nat) (h : List UInt8) (o l : Nat) (ho : 0 < o) (hl : 0 < l) : wordsL (f + 1) h o l = wordsL f (h ++ [40]) (o + 1) (l - 1) ++ wordsL f (h ++ [41]) (o - 1) l := by
  rw [wordsL, if_pos hl, if_pos ho]
theorem words_step0 (f : Nat) (h : List UInt8) (l : Nat) (hl : 0 < l) : wordsL (f + 1) h 0 l = wordsL f (h ++ [40]) 1 (l - 1) := by
  rw [wordsL, if_pos hl, if_neg (by omega), List.append_nil]

/-- the parts -/
def part : Nat → List (List UInt8)
  | 0 => (List.range 8).flatMap fun n => wordsL (2 * n) [] 0 n
  | 1 => wordsL 16 [] 0 8
  | 2 => wordsL 14 [40, 40, 40, 40] 4 5
  | 3 => wordsL 14 [40, 40, 40, 41] 2 6
  | 4 => wordsL 14 [40, 40, 41, 40] 2 6
  | 5 => wordsL 14 [40, 40, 41, 41] 0 7
  | 6 => wordsL 14 [40, 41, 40, 40] 2 6
  | _ => wordsL 14 [40, 41, 40, 41] 0 7

theorem nine : wordsL 18 [] 0 9 = part 2 ++ part 3 ++ (part 4 ++ part 5) ++ (part 6 ++ part 7) := by
  rw [words_step0 17 [] 9 (by decide), words_step 16 _ 1 8 (by decide) (by decide), words_step 15 _ 2 7 (by decide) (by decide), words_step 14 _ 3 6 (by decide) (by decide)]
  rw [words_step 14 ([] ++ [40] ++ [40] ++ [41]) (2 - 1) 7 (by decide) (by decide)]
  rw [words_step0 15 ([] ++ [40] ++ [41]) 8 (by decide), words_step 14 ([] ++ [40] ++ [41] ++ [40]) 1 7 (by decide) (by decide)]
  rfl

theorem of_parts (P : List UInt8 → Bool) (h0 : (part 0).all P = true) (h1 : (part 1).all P = true) (h2 : (part 2).all P = true) (h3 : (part 3).all P = true) (h4 : (part 4).all P = true) (h5 : (part 5).all P = true) (h6 : (part 6).all P = true) (h7 : (part 7).all P = true)
    (l : List UInt8) (hv : valid l = true) : P l = true := by
  obtain ⟨n, hn, hl⟩ := List.mem_flatMap.1 (valid_mem l hv)
  have hn10 := List.mem_range.1 hn
  by_cases a : n < 8
  · exact List.all_eq_true.1 h0 l (List.mem_flatMap.2 ⟨n, List.mem_range.2 a, hl⟩)
  · by_cases b : n = 8
    · subst b; exact List.all_eq_true.1 h1 l hl
    · obtain rfl : n = 9 := by omega
      have hl : l ∈ wordsL 18 [] 0 9 := hl
      rw [nine] at hl
      simp only [List.mem_append] at hl
      rcases hl with ((hl | hl) | (hl | hl)) | (hl | hl)
      · exact List.all_eq_true.1 h2 l hl
      · exact List.all_eq_true.1 h3 l hl
      · exact List.all_eq_true.1 h4 l hl
      · exact List.all_eq_true.1 h5 l hl
      · exact List.all_eq_true.1 h6 l hl
      · exact List.all_eq_true.1 h7 l hl
end Go.Proofs.Ytchfnbcpjiiphaa
