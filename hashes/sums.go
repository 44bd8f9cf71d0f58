package hashes

// The numbers that hashes with 32 and with 64 bits (FNV-1a) begin as, and those that they are multiplied by.
const (
	first32  uint32 = 2166136261
	factor32 uint32 = 16777619
	first64  uint64 = 14695981039346656037
	factor64 uint64 = 1099511628211
)

// goOn goes on from a hash with bytes. Products that do not fit wrap round, which is the modulo that is asked for.
func goOn[H uint32 | uint64](h, factor H, b []byte) H {
	for _, c := range b {
		h = (h ^ H(c)) * factor
	}
	return h
}
