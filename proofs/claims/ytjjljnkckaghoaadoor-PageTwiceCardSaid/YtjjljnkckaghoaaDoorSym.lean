/-
  slices.symMergeCmpFunc at records: two sorted stretches beside one another are merged; equals stand as they stood.
-/
import Derived.Test.YtjjljnkckaghoaaDoorSymA
import Derived.Test.YtjjljnkckaghoaaDoorSymB
import Derived.Test.YtjjljnkckaghoaaDoorSymC
namespace Go.Proofs.YtjjljnkckaghoaaDoor
open Go.RowKit
theorem sym_calls (base g n c : Nat) (hn : n ≤ 1000000) : ∀ (N a m b : Nat) (X U V Y : List Pl) (w : World), U.length + V.length ≤ N → Row w base g n c (X ++ (U ++ (V ++ Y))) → a = X.length → m = a + U.length → b = m + V.length → 0 < U.length → 0 < V.length → SortedP U → SortedP V → SymDoes base g n c a m b X U V Y w := by
  intro N
  induction N with
  | zero => intro a m b X U V Y w hN _ _ _ _ hU; omega
  | succ N ih =>
    intro a m b X U V Y w hN h ha hm hb hU hV sU sV
    by_cases h1 : U.length = 1
    · obtain ⟨u, rfl⟩ := List.length_eq_one_iff.1 h1
      exact symA_calls base g n c a m b X V Y u w h hn ha (by simpa using hm) hb sV
    · by_cases h2 : V.length = 1
      · obtain ⟨v, rfl⟩ := List.length_eq_one_iff.1 h2
        exact symB_calls base g n c a m b X U Y v w h hn ha hm (by simpa using hb) (by omega) sU
      · exact symC_calls base g n c a m b X U V Y w h hn ha hm hb (by omega) (by omega) sU sV (fun a' m' b' X' U' V' Y' w' hlt hr h3 h4 h5 h6 h7 h8 h9 => ih a' m' b' X' U' V' Y' w' (by omega) hr h3 h4 h5 h6 h7 h8 h9)
end Go.Proofs.YtjjljnkckaghoaaDoor
