package kex

import "tabulary/wire"

const (
	algorithm = "ssh-ed25519" // of keys and of signatures
	keySize   = 32
	sigSize   = 64
)

// Blob answers a key as it is told.
func Blob(pub string) string {
	return told(pub)
}

// ReadBlob answers the key of 32 bytes that is told; "", if s is no blob.
func ReadBlob(s string) string {
	return readTold(s, keySize)
}

// Signature answers a signature as it is told.
func Signature(sig []byte) string {
	return told(string(sig))
}

// ReadSignature answers the signature of 64 bytes that is told; none, if s is
// none.
func ReadSignature(s string) []byte {
	return []byte(readTold(s, sigSize))
}

// told answers bytes behind their algorithm's name.
func told(s string) string {
	return string(wire.Text(wire.Text(nil, algorithm), s))
}

// readTold answers so many bytes behind their algorithm's name; "", if s isn't
// just that.
func readTold(s string, size int) string {
	r := wire.From([]byte(s))
	name, body := r.Text(), r.Text()
	if !r.End() || name != algorithm || len(body) != size {
		return ""
	}
	return body
}
