import Derived.Test.YtdfdnjkeiddfjaaDoorSC1
import Derived.Test.YtdfdnjkeiddfjaaDoorJ4
import Derived.Test.YtdfdnjkeiddfjaaDoorK4
/-
  script (stage 25): the document's used, name.
-/
namespace Go.Proofs.YtdfdnjkeiddfjaaDoor
open Go.RowKit
attribute [local go_sem ↓] Go.wp_at_zero Go.wp_at_succ

/-- Stands this letter in the text? -/
def inS (ps : ByteArray) (p : Int) : Bool := (List.range ps.size).any fun j => decide (atK_ ps j = p)
/-- Who or To, as it is written. -/
def nmS (s : ByteArray) : ByteArray := if wrd s = true then s else qtB s
end Go.Proofs.YtdfdnjkeiddfjaaDoor
/-
  script (stage 25): the document's name, Rows. (The table is written by program.)
-/
namespace Go.Proofs.YtdfdnjkeiddfjaaDoor
open Go.RowKit
attribute [local go_sem ↓] Go.wp_at_zero Go.wp_at_succ

/-- A row of the table. -/
structure RwS where
  x : ByteArray
  k : Int
  p : ByteArray
def rwS : List RwS := [⟨⟨#[101, 110, 114, 111, 108, 108]⟩, 1, ⟨#[119]⟩⟩, ⟨⟨#[97, 115, 115, 101, 114, 116]⟩, 2, ⟨#[119, 116]⟩⟩, ⟨⟨#[114, 101, 116, 114, 97, 99, 116]⟩, 3, ⟨#[119, 116]⟩⟩, ⟨⟨#[101, 120, 112, 111, 114, 116]⟩, 4, ⟨#[119, 116, 110]⟩⟩, ⟨⟨#[105, 109, 112, 111, 114, 116]⟩, 5, ⟨#[119, 110]⟩⟩, ⟨⟨#[102, 111, 114, 103, 101, 116]⟩, 6, ⟨#[119, 116]⟩⟩, ⟨⟨#[113, 117, 101, 114, 121]⟩, 7, ⟨#[119, 116, 110]⟩⟩, ⟨⟨#[97, 115, 107]⟩, 8, ⟨#[119, 116]⟩⟩, ⟨⟨#[119, 97, 116, 99, 104]⟩, 9, ⟨#[119, 116]⟩⟩, ⟨⟨#[110, 101, 119, 115]⟩, 10, ⟨#[119, 110]⟩⟩, ⟨⟨#[119, 104, 121]⟩, 11, ⟨#[119, 116]⟩⟩, ⟨⟨#[108, 111, 115, 115]⟩, 12, ⟨#[119, 111]⟩⟩, ⟨⟨#[112, 114, 111, 118, 101]⟩, 13, ⟨#[119, 116, 110]⟩⟩, ⟨⟨#[115, 104, 111, 119]⟩, 14, ⟨#[119, 110]⟩⟩, ⟨⟨#[99, 108, 97, 117, 115, 101, 115]⟩, 15, ⟨#[119]⟩⟩, ⟨⟨#[100, 114, 111, 112]⟩, 16, ⟨#[110]⟩⟩, ⟨⟨#[99, 111, 112, 121]⟩, 17, ⟨#[110]⟩⟩, ⟨⟨#[115, 119, 97, 112]⟩, 18, ⟨#[110, 109]⟩⟩, ⟨⟨#[102, 108, 105, 112]⟩, 19, ⟨#[110, 109, 107]⟩⟩, ⟨⟨#[99, 117, 116]⟩, 20, ⟨#[110, 109]⟩⟩, ⟨⟨#[102, 111, 114, 103, 101]⟩, 21, ⟨#[98]⟩⟩, ⟨⟨#[119, 97, 105, 116, 105, 110, 103]⟩, 22, ⟨#[]⟩⟩, ⟨⟨#[99, 114, 97, 115, 104]⟩, 23, ⟨#[119, 109]⟩⟩, ⟨⟨#[114, 101, 100, 117, 110, 100, 97, 110, 116]⟩, 24, ⟨#[119]⟩⟩]
end Go.Proofs.YtdfdnjkeiddfjaaDoor
