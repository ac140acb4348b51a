/- The statement FracFloor: all ways through its text together. -/
import Derived.Test.YtnlbkklndlgojaaL3
import Derived.Test.YtnlbkklndlgojaaL3ha
import Derived.Test.YtnlbkklndlgojaaL3hb
import Derived.Test.YtnlbkklndlgojaaL3hsame
import Derived.Test.YtnlbkklndlgojaaL3na
import Derived.Test.YtnlbkklndlgojaaL3nb
import Derived.Test.YtnlbkklndlgojaaL3nsame
namespace Go.Proofs.Ytnlbkklndlgojaa
open Go.RowKit

theorem floor_walk (a b c d e f : Int) (w : World) (h1 : -9223372036854775808 ≤ a) (h2 : a ≤ 9223372036854775807) (h3 : -9223372036854775808 ≤ b) (h4 : b ≤ 9223372036854775807) (h5 : -9223372036854775808 ≤ c) (h6 : c ≤ 9223372036854775807) (h7 : -9223372036854775808 ≤ d) (h8 : d ≤ 9223372036854775807) (h9 : -9223372036854775808 ≤ e) (h10 : e ≤ 9223372036854775807) (h11 : -9223372036854775808 ≤ f) (h12 : f ≤ 9223372036854775807) :
    Calls Try.prog 6 #[.agg #[.int .i64 a, .int .i64 b], .agg #[.int .i64 c, .int .i64 d], .agg #[.int .i64 e, .int .i64 f]] w fun e w' => e = .returned (.bool true) ∧ Below w.heap.size w w' := by
  cases kx : M.ok a b
  · exact floor_no a b c d e f w h1 h2 h3 h4 h5 h6 h7 h8 h9 h10 h11 h12 kx
  · by_cases hn : a / b + 1 ≤ 1073741824
    · cases ky : M.ok c d
      · exact floor_h_ky0 a b c d e f w h1 h2 h3 h4 h5 h6 h7 h8 h9 h10 h11 h12 kx hn ky
      · by_cases ea : a = c
        · subst ea
          by_cases eb : b = d
          · subst eb
            cases kz : M.ok e f
            · exact floor_h_same_kz0 a b e f w h1 h2 h3 h4 h5 h6 h7 h8 h9 h10 h11 h12 kx hn ky kz
            · by_cases r1 : M.rE true (a * f + e * b) (b * f) = 0
              · exact floor_h_same_s3 a b e f w h1 h2 h3 h4 h5 h6 h7 h8 h9 h10 h11 h12 kx hn ky kz r1 r1
              · exact floor_h_same_s1 a b e f w h1 h2 h3 h4 h5 h6 h7 h8 h9 h10 h11 h12 kx hn ky kz r1
          · have eb' : (b == d) = false := by simpa using eb
            cases kz : M.ok e f
            · exact floor_h_b_kz0 a b d e f w h1 h2 h3 h4 h5 h6 h7 h8 h9 h10 h11 h12 kx hn ky kz eb'
            · by_cases r1 : M.rE true (a * f + e * b) (b * f) = 0
              · by_cases r2 : M.rE true (a * f + e * d) (d * f) = 0
                · exact floor_h_b_s3 a b d e f w h1 h2 h3 h4 h5 h6 h7 h8 h9 h10 h11 h12 kx hn ky kz r1 r2 eb'
                · exact floor_h_b_s2 a b d e f w h1 h2 h3 h4 h5 h6 h7 h8 h9 h10 h11 h12 kx hn ky kz r1 r2 eb'
              · exact floor_h_b_s1 a b d e f w h1 h2 h3 h4 h5 h6 h7 h8 h9 h10 h11 h12 kx hn ky kz r1 eb'
        · have ea' : (a == c) = false := by simpa using ea
          cases kz : M.ok e f
          · exact floor_h_a_kz0 a b c d e f w h1 h2 h3 h4 h5 h6 h7 h8 h9 h10 h11 h12 kx hn ky kz ea'
          · by_cases r1 : M.rE true (a * f + e * b) (b * f) = 0
            · by_cases r2 : M.rE true (c * f + e * d) (d * f) = 0
              · exact floor_h_a_s3 a b c d e f w h1 h2 h3 h4 h5 h6 h7 h8 h9 h10 h11 h12 kx hn ky kz r1 r2 ea'
              · exact floor_h_a_s2 a b c d e f w h1 h2 h3 h4 h5 h6 h7 h8 h9 h10 h11 h12 kx hn ky kz r1 r2 ea'
            · exact floor_h_a_s1 a b c d e f w h1 h2 h3 h4 h5 h6 h7 h8 h9 h10 h11 h12 kx hn ky kz r1 ea'
    · cases ky : M.ok c d
      · exact floor_n_ky0 a b c d e f w h1 h2 h3 h4 h5 h6 h7 h8 h9 h10 h11 h12 kx hn ky
      · by_cases ea : a = c
        · subst ea
          by_cases eb : b = d
          · subst eb
            cases kz : M.ok e f
            · exact floor_n_same_kz0 a b e f w h1 h2 h3 h4 h5 h6 h7 h8 h9 h10 h11 h12 kx hn ky kz
            · by_cases r1 : M.rE true (a * f + e * b) (b * f) = 0
              · exact floor_n_same_s3 a b e f w h1 h2 h3 h4 h5 h6 h7 h8 h9 h10 h11 h12 kx hn ky kz r1 r1
              · exact floor_n_same_s1 a b e f w h1 h2 h3 h4 h5 h6 h7 h8 h9 h10 h11 h12 kx hn ky kz r1
          · have eb' : (b == d) = false := by simpa using eb
            cases kz : M.ok e f
            · exact floor_n_b_kz0 a b d e f w h1 h2 h3 h4 h5 h6 h7 h8 h9 h10 h11 h12 kx hn ky kz eb'
            · by_cases r1 : M.rE true (a * f + e * b) (b * f) = 0
              · by_cases r2 : M.rE true (a * f + e * d) (d * f) = 0
                · exact floor_n_b_s3 a b d e f w h1 h2 h3 h4 h5 h6 h7 h8 h9 h10 h11 h12 kx hn ky kz r1 r2 eb'
                · exact floor_n_b_s2 a b d e f w h1 h2 h3 h4 h5 h6 h7 h8 h9 h10 h11 h12 kx hn ky kz r1 r2 eb'
              · exact floor_n_b_s1 a b d e f w h1 h2 h3 h4 h5 h6 h7 h8 h9 h10 h11 h12 kx hn ky kz r1 eb'
        · have ea' : (a == c) = false := by simpa using ea
          cases kz : M.ok e f
          · exact floor_n_a_kz0 a b c d e f w h1 h2 h3 h4 h5 h6 h7 h8 h9 h10 h11 h12 kx hn ky kz ea'
          · by_cases r1 : M.rE true (a * f + e * b) (b * f) = 0
            · by_cases r2 : M.rE true (c * f + e * d) (d * f) = 0
              · exact floor_n_a_s3 a b c d e f w h1 h2 h3 h4 h5 h6 h7 h8 h9 h10 h11 h12 kx hn ky kz r1 r2 ea'
              · exact floor_n_a_s2 a b c d e f w h1 h2 h3 h4 h5 h6 h7 h8 h9 h10 h11 h12 kx hn ky kz r1 r2 ea'
            · exact floor_n_a_s1 a b c d e f w h1 h2 h3 h4 h5 h6 h7 h8 h9 h10 h11 h12 kx hn ky kz r1 ea'
end Go.Proofs.Ytnlbkklndlgojaa
