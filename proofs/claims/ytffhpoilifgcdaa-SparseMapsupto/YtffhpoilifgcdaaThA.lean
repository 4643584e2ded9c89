import Derived.Test.YtffhpoilifgcdaaLzA
namespace Go.Proofs.Ytffhpoilifgcdaa
open Go.RowKit
theorem tHid {p : Prop} (h : p) : Hid p := h
end Go.Proofs.Ytffhpoilifgcdaa
