// Package checks holds the project's sources against how they are to be written.
package checks

import (
	"crypto/sha256"
	"encoding/hex"
	"os"
	"testing"
)

// TestGiven: the given packages lie as they were given, and nothing beside their files.
func TestGiven(t *testing.T) {
	for name, want := range map[string]string{
		"api":   "e7132e574a25f7d49f69717bef5a2377a7e737611edc6e09e131f5994c7177e5",
		"plain": "c6034c6bdeb1857d5f7ccdf5e59d714602be95154afe5151b361877e768e6ade",
	} {
		b, err := os.ReadFile("../" + name + "/" + name + ".go")
		if sum := sha256.Sum256(b); err != nil || hex.EncodeToString(sum[:]) != want {
			t.Errorf("package %s is not as it was given: %v", name, err)
		}
		files, err := os.ReadDir("../" + name)
		if len(files) != 1 || err != nil {
			t.Errorf("beside package %s lies something: %v, %v", name, files, err)
		}
	}
}
