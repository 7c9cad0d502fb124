/- No contract of the library's is wanted here: nothing is said. -/
import Derived.Test.YtdehkehjbmnllabProg
namespace Go.Proofs.Ytdehkehjbmnllab
end Go.Proofs.Ytdehkehjbmnllab
